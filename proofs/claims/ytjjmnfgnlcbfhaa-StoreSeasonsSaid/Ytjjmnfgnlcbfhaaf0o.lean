
/- Seasons: cells, the check. -/
import Derived.Test.Ytjjmnfgnlcbfhaac6o
set_option linter.unusedVariables false
set_option linter.unusedSimpArgs false
namespace Go.Proofs.Ytjjmnfgnlcbfhaa
open Go.AI
abbrev Sev (s g : Value) : Value := .agg #[s, g]
theorem fe0 : fieldOff Try.prog 68 0 = some (0, 1) := by kernel_rfl
theorem fe1 : fieldOff Try.prog 68 1 = some (1, 1) := by kernel_rfl
theorem agSe : isAggB Try.prog 68 = some true := by kernel_rfl
theorem szSe : sizeB Try.prog 68 = some 2 := by kernel_rfl
theorem agN : isAggB Try.prog 29 = some false := by kernel_rfl
theorem szN : sizeB Try.prog 29 = some 1 := by kernel_rfl
theorem agGr : isAggB Try.prog 39 = some false := by kernel_rfl
theorem unG : Try.prog.underlying 39 = some (.slice 29) := by kernel_rfl
theorem boxSe {H : Heap} {s g : Value} {e : TypeId} : anew H (Value.cells (Sev s g)).toList e 1 = H.new (.cells [s, g] e 1) := rfl
theorem ldSe {H : Heap} {b : Nat} {s g : Value} {e : TypeId} {k : Nat} (hg : H.get b = some (.cells [s, g] e k)) : aload Try.prog 68 H (.pointer (some ⟨b, 0, none⟩)) = some (Sev s g) := agg_load agSe szSe hg (Nat.le_refl _)
/-- Rows of rows of numbers. -/
structure Gri (H : Heap) (v : Value) (vs : List Value) (gs : List (List Int)) : Prop where
  row : Row H v vs
  len : vs.length = gs.length
  ints : ∀ i, i < gs.length → Ints H vs[i]! gs[i]!
theorem Gri.keep {H H' : Heap} {v : Value} {vs : List Value} {gs : List (List Int)} (h : Gri H v vs gs) (k : Keep H H') : Gri H' v vs gs := ⟨h.row.keep k, h.len, fun i hi => (h.ints i hi).keep k⟩
theorem Gri.keepM {H H' : Heap} {v : Value} {vs : List Value} {gs : List (List Int)} {r : Nat} {es : List (Value × Value)} (h : Gri H v vs gs) (k : KeepX r H H') (hr : H.get r = some (.map es)) : Gri H' v vs gs := ⟨h.row.keepM k hr, h.len, fun i hi => Row.keepM (h.ints i hi) k hr⟩
theorem Gri.alen {H : Heap} {v : Value} {vs : List Value} {gs : List (List Int)} (h : Gri H v vs gs) : alen Try.prog H 39 v = some (.int .i64 gs.length) := by rw [← h.len]; exact h.row.alen unG
theorem Gri.addr {H : Heap} {v : Value} {vs : List Value} {gs : List (List Int)} (h : Gri H v vs gs) {i : Nat} (hi : i < gs.length) : aindexAddr Try.prog 39 v (VI i) = some (elemAt v i) := h.row.addr unG szN (by omega) (by rw [h.len]; omega)
theorem Gri.load {H : Heap} {v : Value} {vs : List Value} {gs : List (List Int)} (h : Gri H v vs gs) {i : Nat} (hi : i < gs.length) : aload Try.prog 29 H (elemAt v i) = some vs[i]! :=
  h.row.load agN (by rw [getElem!_pos vs i (by rw [h.len]; exact hi)]; exact List.getElem?_eq_getElem _)
/-- The first error of the guests of a gathering. -/
def guE (pre : List Int) : List Int → Int
  | [] => 0
  | g :: t => bif inB g 0 11 then (if g ∈ pre then 9 else guE (pre ++ [g]) t) else 2
def guestsE (gs : List Int) : Int := if gs.length = 0 then 6 else guE [] gs
def soE : List Int → Int
  | [] => 0
  | s :: t => bif inB s 1 6 then soE t else 2
def gsE : List (List Int) → Int
  | [] => 0
  | g :: t => if guestsE g = 0 then gsE t else guestsE g
def seaE (st : List Int) (gs : List (List Int)) : Int := if st.length = 0 then 6 else if 4 < st.length then 8 else if soE st = 0 then (if 9 < gs.length then 8 else gsE gs) else 2
theorem dr_at {α : Type} [Inhabited α] {l : List α} {i : Nat} (h : i < l.length) : l.drop i = l[i]! :: l.drop (i + 1) := by rw [List.drop_eq_getElem_cons h, getElem!_pos l i h]
theorem tk_at {α : Type} [Inhabited α] {l : List α} {i : Nat} (h : i < l.length) : l.take (i + 1) = l.take i ++ [l[i]!] := by rw [List.take_succ_eq_append_getElem h, getElem!_pos l i h]
set_option maxRecDepth 100000 in
theorem checkGuests_spec [Orc] {B : Nat} {H : Heap} {v : Value} {gs : List Int} (hB : B ≤ H.n) (hg : Ints H v gs) (hn : gs.length < 1000000) :
    CallB Try.prog B 111 [v] H (fun r H' => r = VI (guestsE gs) ∧ H' = H) := by
  refine CV.enter callees false (Orc.hv rfl rfl) Try.func111 rfl (by kernel_rfl) (Nat.le_of_ble_eq_true rfl) hB ?_ (Orc.hw rfl rfl)
  by_cases h0 : gs.length = 0
  · have e : guestsE gs = 6 := by unfold guestsE; rw [if_pos h0]
    repeat' first
      | refine CO.cons rfl ?_
      | refine CO.nil ?_
      | refine CV.seq ?_
      | refine CV.region callees ?_
      | refine CV.cond ?_
      | refine CV.ret ?_
      | refine ⟨_, ints_len (by assumption), ?_⟩
      | (refine ⟨fun _ => ?_, fun _ => ?_⟩ <;> first | (exfalso; omega) | skip)
      | fail
    exact ⟨rfl, by rw [e], rfl⟩
  have e : guestsE gs = guE [] gs := by unfold guestsE; rw [if_neg h0]
  repeat' first
    | refine CO.cons rfl ?_
    | refine CO.nil ?_
    | refine CV.seq ?_
    | refine CV.region callees ?_
    | refine CV.cond ?_
    | refine CV.block ?_
    | refine CV.skip ?_
    | refine ⟨_, ints_len (by assumption), ?_⟩
    | (refine ⟨fun _ => ?_, fun _ => ?_⟩ <;> first | (exfalso; omega) | skip)
    | fail
  refine CV.loopc ?_
  refine WCv.rounds callees false (α := Nat) (fun i => [(0, v), (8, v), (9, VI gs.length), (10, VI i)]) (fun i Hz => i ≤ gs.length ∧ guE (gs.take i) (gs.drop i) = guestsE gs ∧ Hz = H) (fun i => gs.length - i) (0) (by repeat' first | exact trivial | refine ⟨rfl, ?_⟩ | refine ⟨slot_int (by (try simp only [Int.toNat_natCast]); omega), ?_⟩) ?_ ?_
  · exact ⟨by omega, e.symm, rfl⟩
  rintro i Hx ⟨hi, hw, rfl⟩ hBx
  by_cases hi2 : i < gs.length
  · rw [dr_at hi2] at hw
    simp only [guE] at hw
    repeat' first
      | refine CO.cons rfl ?_
      | refine CO.nil ?_
      | refine CV.seq ?_
      | refine CV.region callees ?_
      | refine CV.cond ?_
      | refine CV.block ?_
      | refine CV.skip ?_
      | refine ⟨_, ints_addr (by assumption) (by omega) (by omega), ?_⟩
      | refine ⟨_, ints_load (by assumption) (by omega) (by omega), ?_⟩
      | (refine ⟨fun _ => ?_, fun _ => ?_⟩ <;> first | (exfalso; omega) | skip)
      | fail
    refine (within_spec (n := gs[i]!) (by omega)).mono ?_
    cases c1 : inB gs[i]! 0 11
    · rintro r H1 ⟨rfl, rfl⟩
      rw [c1, cond_false] at hw
      repeat' first
        | refine CO.cons rfl ?_
        | refine CO.nil ?_
        | refine CV.seq ?_
        | refine CV.region callees ?_
        | refine CV.cond ?_
        | refine CV.ret ?_
        | fail
      exact ⟨rfl, by rw [← hw], rfl⟩
    rintro r H1 ⟨rfl, rfl⟩
    rw [c1, cond_true] at hw
    repeat' first
      | refine CO.cons rfl ?_
      | refine CO.nil ?_
      | refine CV.seq ?_
      | refine CV.region callees ?_
      | refine CV.cond ?_
      | refine CV.skip ?_
      | (refine ints_slice hg (by omega) (by omega) ?_)
      | fail
    intro q hq
    have hq' : Ints H1 q (gs.take i) := hq
    repeat' first
      | refine CO.cons rfl ?_
      | fail
    refine (contains_spec (t := gs[i]!) (by omega) hq' (by rw [List.length_take]; omega)).mono ?_
    by_cases c2 : gs[i]! ∈ gs.take i
    · rw [decide_eq_true c2]
      rw [if_pos c2] at hw
      rintro r H2 ⟨rfl, rfl⟩
      repeat' first
        | refine CO.cons rfl ?_
        | refine CO.nil ?_
        | refine CV.seq ?_
        | refine CV.region callees ?_
        | refine CV.cond ?_
        | refine CV.ret ?_
        | fail
      exact ⟨rfl, by rw [← hw], rfl⟩
    · rw [decide_eq_false c2]
      rw [if_neg c2, ← tk_at hi2] at hw
      rintro r H2 ⟨rfl, rfl⟩
      repeat' first
        | refine CO.cons rfl ?_
        | refine CO.nil ?_
        | refine CV.region callees ?_
        | refine CV.cond ?_
        | refine CV.skip ?_
        | refine ⟨(⟨by omega, by omega⟩ : inI64 _), ?_⟩
        | fail
      refine ⟨(i + 1), (by repeat' first | exact trivial | refine ⟨rfl, ?_⟩ | refine ⟨slot_int (by (try simp only [Int.toNat_natCast]); omega), ?_⟩), (by (try dsimp only); omega), ?_⟩
      exact ⟨by omega, hw, rfl⟩
  obtain rfl : i = gs.length := by omega
  rw [List.drop_length] at hw
  repeat' first
    | refine CO.cons rfl ?_
    | refine CO.nil ?_
    | refine CV.seq ?_
    | refine CV.region callees ?_
    | refine CV.cond ?_
    | refine CV.exit ?_
    | refine CV.ret ?_
    | (refine ⟨fun _ => ?_, fun _ => ?_⟩ <;> first | (exfalso; omega) | skip)
    | fail
  exact ⟨rfl, by rw [← hw]; rfl, rfl⟩
set_option maxRecDepth 100000 in
theorem checkSeason_spec [Orc] {B : Nat} {H : Heap} {s g : Value} {gv : List Value} {st : List Int} {gs : List (List Int)} (hB : B ≤ H.n) (hs : Ints H s st) (hg : Gri H g gv gs) (hsn : st.length < 1000000) (hgn : gs.length < 1000000) (hgg : ∀ x ∈ gs, x.length < 1000000) :
    CallB Try.prog B 52 [Sev s g] H (fun r H' => r = VI (seaE st gs) ∧ Keep H H') := by
  refine CV.enter callees false (Orc.hv rfl rfl) Try.func52 rfl (by kernel_rfl) (Nat.le_of_ble_eq_true rfl) hB ?_ (Orc.hw rfl rfl)
  repeat' first
    | refine CO.cons rfl ?_
    | refine CV.seq ?_
    | refine CV.region callees ?_
    | fail
  refine ⟨(by simp only [notTuple]), ?_⟩
  rw [boxSe]
  generalize hs0 : Heap.new H _ = H0
  have hg0 := new_get hs0
  have k0 := new_keep hs0
  have n0 := new_n hs0
  obtain ⟨b0, hbn0⟩ : ∃ b, Heap.n H = b := ⟨_, rfl⟩
  rw [hbn0] at hg0 n0 ⊢
  have hs0 : Ints H0 s st := hs.keep k0
  have hgr := hg.keep k0
  have l0 := k0.1
  by_cases h0 : st.length = 0
  · have e : seaE st gs = 6 := by unfold seaE; rw [if_pos h0]
    repeat' first
      | refine CO.cons rfl ?_
      | refine CO.nil ?_
      | refine CV.seq ?_
      | refine CV.region callees ?_
      | refine CV.cond ?_
      | refine CV.ret ?_
      | refine ⟨_, ints_len (by assumption), ?_⟩
      | (refine ⟨_, fS fe0 (by decide), ?_⟩)
      | (refine ⟨_, cell_load agN hg0 rfl, ?_⟩)
      | (refine ⟨fun _ => ?_, fun _ => ?_⟩ <;> first | (exfalso; omega) | skip)
      | fail
    exact ⟨rfl, by rw [e], k0⟩
  by_cases h4 : 4 < st.length
  · have e : seaE st gs = 8 := by unfold seaE; rw [if_neg h0, if_pos h4]
    repeat' first
      | refine CO.cons rfl ?_
      | refine CO.nil ?_
      | refine CV.seq ?_
      | refine CV.region callees ?_
      | refine CV.cond ?_
      | refine CV.skip ?_
      | refine CV.ret ?_
      | refine ⟨_, ints_len (by assumption), ?_⟩
      | (refine ⟨_, fS fe0 (by decide), ?_⟩)
      | (refine ⟨_, cell_load agN hg0 rfl, ?_⟩)
      | (refine ⟨fun _ => ?_, fun _ => ?_⟩ <;> first | (exfalso; omega) | skip)
      | fail
    exact ⟨rfl, by rw [e], k0⟩
  repeat' first
    | refine CO.cons rfl ?_
    | refine CO.nil ?_
    | refine CV.seq ?_
    | refine CV.region callees ?_
    | refine CV.cond ?_
    | refine CV.block ?_
    | refine CV.skip ?_
    | refine ⟨_, ints_len (by assumption), ?_⟩
    | (refine ⟨_, fS fe0 (by decide), ?_⟩)
    | (refine ⟨_, cell_load agN hg0 rfl, ?_⟩)
    | (refine ⟨fun _ => ?_, fun _ => ?_⟩ <;> first | (exfalso; omega) | skip)
    | fail
  refine CV.loopc ?_
  refine WCv.rounds callees false (α := Nat) (fun i => [(1, .pointer (some ⟨b0, 0, none⟩)), (17, s), (18, VI st.length), (19, VI i)]) (fun i Hz => i ≤ st.length ∧ soE (st.drop i) = soE st ∧ Hz = H0) (fun i => st.length - i) (0) (by repeat' first | exact trivial | refine ⟨rfl, ?_⟩ | refine ⟨slot_int (by (try simp only [Int.toNat_natCast]); omega), ?_⟩) ?_ ?_
  · exact ⟨by omega, rfl, rfl⟩
  rintro i Hx ⟨hi, hw, rfl⟩ hBx
  by_cases hi2 : i < st.length
  · rw [dr_at hi2] at hw
    simp only [soE] at hw
    repeat' first
      | refine CO.cons rfl ?_
      | refine CO.nil ?_
      | refine CV.seq ?_
      | refine CV.region callees ?_
      | refine CV.cond ?_
      | refine CV.block ?_
      | refine CV.skip ?_
      | refine ⟨_, ints_addr (by assumption) (by omega) (by omega), ?_⟩
      | refine ⟨_, ints_load (by assumption) (by omega) (by omega), ?_⟩
      | (refine ⟨fun _ => ?_, fun _ => ?_⟩ <;> first | (exfalso; omega) | skip)
      | fail
    refine (within_spec (n := st[i]!) (by omega)).mono ?_
    cases c1 : inB st[i]! 1 6
    · rintro r H1 ⟨rfl, rfl⟩
      rw [c1, cond_false] at hw
      have e : seaE st gs = 2 := by unfold seaE; rw [if_neg h0, if_neg h4, if_neg (by rw [← hw]; decide)]
      repeat' first
        | refine CO.cons rfl ?_
        | refine CO.nil ?_
        | refine CV.seq ?_
        | refine CV.region callees ?_
        | refine CV.cond ?_
        | refine CV.ret ?_
        | fail
      exact ⟨rfl, by rw [e], k0⟩
    rintro r H1 ⟨rfl, rfl⟩
    rw [c1, cond_true] at hw
    repeat' first
      | refine CO.cons rfl ?_
      | refine CO.nil ?_
      | refine CV.region callees ?_
      | refine CV.cond ?_
      | refine CV.skip ?_
      | refine ⟨(⟨by omega, by omega⟩ : inI64 _), ?_⟩
      | fail
    refine ⟨(i + 1), (by repeat' first | exact trivial | refine ⟨rfl, ?_⟩ | refine ⟨slot_int (by (try simp only [Int.toNat_natCast]); omega), ?_⟩), (by (try dsimp only); omega), ?_⟩
    exact ⟨by omega, hw, rfl⟩
  obtain rfl : i = st.length := by omega
  rw [List.drop_length] at hw
  have hso : soE st = 0 := hw.symm
  clear hw
  by_cases h9 : 9 < gs.length
  · have e : seaE st gs = 8 := by unfold seaE; rw [if_neg h0, if_neg h4, if_pos hso, if_pos h9]
    repeat' first
      | refine CO.cons rfl ?_
      | refine CO.nil ?_
      | refine CV.seq ?_
      | refine CV.region callees ?_
      | refine CV.cond ?_
      | refine CV.exit ?_
      | refine CV.ret ?_
      | (refine ⟨_, fS fe1 (by decide), ?_⟩)
      | (refine ⟨_, cell_load agGr hg0 rfl, ?_⟩)
      | (refine ⟨_, hgr.alen, ?_⟩)
      | (refine ⟨fun _ => ?_, fun _ => ?_⟩ <;> first | (exfalso; omega) | skip)
      | fail
    exact ⟨rfl, by rw [e], k0⟩
  have e : seaE st gs = gsE gs := by unfold seaE; rw [if_neg h0, if_neg h4, if_pos hso, if_neg h9]
  repeat' first
    | refine CO.cons rfl ?_
    | refine CO.nil ?_
    | refine CV.seq ?_
    | refine CV.region callees ?_
    | refine CV.cond ?_
    | refine CV.block ?_
    | refine CV.skip ?_
    | refine CV.exit ?_
    | (refine ⟨_, fS fe1 (by decide), ?_⟩)
    | (refine ⟨_, cell_load agGr hg0 rfl, ?_⟩)
    | (refine ⟨_, hgr.alen, ?_⟩)
    | (refine ⟨fun _ => ?_, fun _ => ?_⟩ <;> first | (exfalso; omega) | skip)
    | fail
  refine CV.loopc ?_
  refine WCv.rounds callees false (α := Nat) (fun i => [(32, g), (33, VI gs.length), (34, VI i)]) (fun i Hz => i ≤ gs.length ∧ gsE (gs.drop i) = seaE st gs ∧ Hz = Hx) (fun i => gs.length - i) (0) (by repeat' first | exact trivial | refine ⟨rfl, ?_⟩ | refine ⟨slot_int (by (try simp only [Int.toNat_natCast]); omega), ?_⟩) ?_ ?_
  · exact ⟨by omega, e.symm, rfl⟩
  rintro i Hy ⟨hi, hw, rfl⟩ hBy
  by_cases hi2 : i < gs.length
  · rw [dr_at hi2] at hw
    simp only [gsE] at hw
    repeat' first
      | refine CO.cons rfl ?_
      | refine CO.nil ?_
      | refine CV.seq ?_
      | refine CV.region callees ?_
      | refine CV.cond ?_
      | refine CV.block ?_
      | refine CV.skip ?_
      | (refine ⟨_, hgr.addr hi2, ?_⟩)
      | (refine ⟨_, hgr.load hi2, ?_⟩)
      | (refine ⟨fun _ => ?_, fun _ => ?_⟩ <;> first | (exfalso; omega) | skip)
      | fail
    refine (checkGuests_spec (by omega) (hgr.ints i hi2) (hgg _ (by rw [getElem!_pos gs i hi2]; exact List.getElem_mem _))).mono ?_
    rintro r H1 ⟨rfl, rfl⟩
    by_cases c1 : guestsE gs[i]! = 0
    · rw [if_pos c1] at hw
      rw [c1]
      repeat' first
        | refine CO.cons rfl ?_
        | refine CO.nil ?_
        | refine CV.seq ?_
        | refine CV.region callees ?_
        | refine CV.cond ?_
        | refine CV.skip ?_
        | refine ⟨(⟨by omega, by omega⟩ : inI64 _), ?_⟩
        | (refine ⟨fun _ => ?_, fun _ => ?_⟩ <;> first | (exfalso; omega) | skip)
        | fail
      refine ⟨(i + 1), (by repeat' first | exact trivial | refine ⟨rfl, ?_⟩ | refine ⟨slot_int (by (try simp only [Int.toNat_natCast]); omega), ?_⟩), (by (try dsimp only); omega), ?_⟩
      exact ⟨by omega, hw, rfl⟩
    · rw [if_neg c1] at hw
      repeat' first
        | refine CO.cons rfl ?_
        | refine CO.nil ?_
        | refine CV.seq ?_
        | refine CV.region callees ?_
        | refine CV.cond ?_
        | refine CV.ret ?_
        | (refine ⟨fun _ => ?_, fun _ => ?_⟩ <;> first | (exfalso; omega) | skip)
        | fail
      exact ⟨rfl, by rw [← hw], k0⟩
  obtain rfl : i = gs.length := by omega
  rw [List.drop_length] at hw
  repeat' first
    | refine CO.cons rfl ?_
    | refine CO.nil ?_
    | refine CV.seq ?_
    | refine CV.region callees ?_
    | refine CV.cond ?_
    | refine CV.exit ?_
    | refine CV.ret ?_
    | (refine ⟨fun _ => ?_, fun _ => ?_⟩ <;> first | (exfalso; omega) | skip)
    | fail
  exact ⟨rfl, by rw [← hw]; rfl, k0⟩
/-- How many combinations there are. -/
def combos : List Int → Int
  | [] => 1
  | s :: t => s * combos t
end Go.Proofs.Ytjjmnfgnlcbfhaa
