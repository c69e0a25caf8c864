/- Several texts in one. -/
import Derived.Test.YtijimplcjaeneaaO3
import Derived.Test.YtijimplcjaeneaaO4
import Derived.Test.YtijimplcjaeneaaO1
set_option linter.unusedVariables false
set_option linter.unusedSimpArgs false

/- Seasons: cells, the check. -/
namespace Go.Proofs.Ytijimplcjaeneaa
open Go.AI
abbrev Sev (s g : Value) : Value := .agg #[s, g]
theorem fe0 : fieldOff Try.prog 68 0 = some (0, 1) := by kernel_rfl
theorem fe1 : fieldOff Try.prog 68 1 = some (1, 1) := by kernel_rfl
theorem agSe : isAggB Try.prog 68 = some true := by kernel_rfl
theorem szSe : sizeB Try.prog 68 = some 2 := by kernel_rfl
theorem agN : isAggB Try.prog 29 = some false := by kernel_rfl
theorem szN : sizeB Try.prog 29 = some 1 := by kernel_rfl
theorem agGr : isAggB Try.prog 39 = some false := by kernel_rfl
theorem unG : Try.prog.underlying 39 = some (.slice 29) := by kernel_rfl
theorem boxSe {H : Heap} {s g : Value} {e : TypeId} : anew H (Value.cells (Sev s g)).toList e 1 = H.new (.cells [s, g] e 1) := rfl
theorem ldSe {H : Heap} {b : Nat} {s g : Value} {e : TypeId} {k : Nat} (hg : H.get b = some (.cells [s, g] e k)) : aload Try.prog 68 H (.pointer (some ⟨b, 0, none⟩)) = some (Sev s g) := agg_load agSe szSe hg (Nat.le_refl _)
/-- Rows of rows of numbers. -/
structure Gri (H : Heap) (v : Value) (vs : List Value) (gs : List (List Int)) : Prop where
  row : Row H v vs
  len : vs.length = gs.length
  ints : ∀ i, i < gs.length → Ints H vs[i]! gs[i]!
theorem Gri.keep {H H' : Heap} {v : Value} {vs : List Value} {gs : List (List Int)} (h : Gri H v vs gs) (k : Keep H H') : Gri H' v vs gs := ⟨h.row.keep k, h.len, fun i hi => (h.ints i hi).keep k⟩
theorem Gri.keepM {H H' : Heap} {v : Value} {vs : List Value} {gs : List (List Int)} {r : Nat} {es : List (Value × Value)} (h : Gri H v vs gs) (k : KeepX r H H') (hr : H.get r = some (.map es)) : Gri H' v vs gs := ⟨h.row.keepM k hr, h.len, fun i hi => Row.keepM (h.ints i hi) k hr⟩
theorem Gri.alen {H : Heap} {v : Value} {vs : List Value} {gs : List (List Int)} (h : Gri H v vs gs) : alen Try.prog H 39 v = some (.int .i64 gs.length) := by rw [← h.len]; exact h.row.alen unG
theorem Gri.addr {H : Heap} {v : Value} {vs : List Value} {gs : List (List Int)} (h : Gri H v vs gs) {i : Nat} (hi : i < gs.length) : aindexAddr Try.prog 39 v (VI i) = some (elemAt v i) := h.row.addr unG szN (by omega) (by rw [h.len]; omega)
theorem Gri.load {H : Heap} {v : Value} {vs : List Value} {gs : List (List Int)} (h : Gri H v vs gs) {i : Nat} (hi : i < gs.length) : aload Try.prog 29 H (elemAt v i) = some vs[i]! :=
  h.row.load agN (by rw [getElem!_pos vs i (by rw [h.len]; exact hi)]; exact List.getElem?_eq_getElem _)
/-- The first error of the guests of a gathering. -/
def guE (pre : List Int) : List Int → Int
  | [] => 0
  | g :: t => bif inB g 0 11 then (if g ∈ pre then 9 else guE (pre ++ [g]) t) else 2
def guestsE (gs : List Int) : Int := if gs.length = 0 then 6 else guE [] gs
def soE : List Int → Int
  | [] => 0
  | s :: t => bif inB s 1 6 then soE t else 2
def gsE : List (List Int) → Int
  | [] => 0
  | g :: t => if guestsE g = 0 then gsE t else guestsE g
def seaE (st : List Int) (gs : List (List Int)) : Int := if st.length = 0 then 6 else if 4 < st.length then 8 else if soE st = 0 then (if 9 < gs.length then 8 else gsE gs) else 2
theorem dr_at {α : Type} [Inhabited α] {l : List α} {i : Nat} (h : i < l.length) : l.drop i = l[i]! :: l.drop (i + 1) := by rw [List.drop_eq_getElem_cons h, getElem!_pos l i h]
theorem tk_at {α : Type} [Inhabited α] {l : List α} {i : Nat} (h : i < l.length) : l.take (i + 1) = l.take i ++ [l[i]!] := by rw [List.take_succ_eq_append_getElem h, getElem!_pos l i h]
set_option maxRecDepth 100000 in
theorem checkGuests_spec [Orc] {B : Nat} {H : Heap} {v : Value} {gs : List Int} (hB : B ≤ H.n) (hg : Ints H v gs) (hn : gs.length < 1000000) :
    CallB Try.prog B 111 [v] H (fun r H' => r = VI (guestsE gs) ∧ H' = H) := by
  refine CV.enter callees false (Orc.hv rfl rfl) Try.func111 rfl (by kernel_rfl) (Nat.le_of_ble_eq_true rfl) hB ?_ (Orc.hw rfl rfl)
  by_cases h0 : gs.length = 0
  · have e : guestsE gs = 6 := by unfold guestsE; rw [if_pos h0]
    repeat' first
      | refine CO.cons rfl ?_
      | refine CO.nil ?_
      | refine CV.seq ?_
      | refine CV.region callees ?_
      | refine CV.cond ?_
      | refine CV.ret ?_
      | refine ⟨_, ints_len (by assumption), ?_⟩
      | (refine ⟨fun _ => ?_, fun _ => ?_⟩ <;> first | (exfalso; omega) | skip)
      | fail
    exact ⟨rfl, by rw [e], rfl⟩
  have e : guestsE gs = guE [] gs := by unfold guestsE; rw [if_neg h0]
  repeat' first
    | refine CO.cons rfl ?_
    | refine CO.nil ?_
    | refine CV.seq ?_
    | refine CV.region callees ?_
    | refine CV.cond ?_
    | refine CV.block ?_
    | refine CV.skip ?_
    | refine ⟨_, ints_len (by assumption), ?_⟩
    | (refine ⟨fun _ => ?_, fun _ => ?_⟩ <;> first | (exfalso; omega) | skip)
    | fail
  refine CV.loopc ?_
  refine WCv.rounds callees false (α := Nat) (fun i => [(0, v), (8, v), (9, VI gs.length), (10, VI i)]) (fun i Hz => i ≤ gs.length ∧ guE (gs.take i) (gs.drop i) = guestsE gs ∧ Hz = H) (fun i => gs.length - i) (0) (by repeat' first | exact trivial | refine ⟨rfl, ?_⟩ | refine ⟨slot_int (by (try simp only [Int.toNat_natCast]); omega), ?_⟩) ?_ ?_
  · exact ⟨by omega, e.symm, rfl⟩
  rintro i Hx ⟨hi, hw, rfl⟩ hBx
  by_cases hi2 : i < gs.length
  · rw [dr_at hi2] at hw
    simp only [guE] at hw
    repeat' first
      | refine CO.cons rfl ?_
      | refine CO.nil ?_
      | refine CV.seq ?_
      | refine CV.region callees ?_
      | refine CV.cond ?_
      | refine CV.block ?_
      | refine CV.skip ?_
      | refine ⟨_, ints_addr (by assumption) (by omega) (by omega), ?_⟩
      | refine ⟨_, ints_load (by assumption) (by omega) (by omega), ?_⟩
      | (refine ⟨fun _ => ?_, fun _ => ?_⟩ <;> first | (exfalso; omega) | skip)
      | fail
    refine (within_spec (n := gs[i]!) (by omega)).mono ?_
    cases c1 : inB gs[i]! 0 11
    · rintro r H1 ⟨rfl, rfl⟩
      rw [c1, cond_false] at hw
      repeat' first
        | refine CO.cons rfl ?_
        | refine CO.nil ?_
        | refine CV.seq ?_
        | refine CV.region callees ?_
        | refine CV.cond ?_
        | refine CV.ret ?_
        | fail
      exact ⟨rfl, by rw [← hw], rfl⟩
    rintro r H1 ⟨rfl, rfl⟩
    rw [c1, cond_true] at hw
    repeat' first
      | refine CO.cons rfl ?_
      | refine CO.nil ?_
      | refine CV.seq ?_
      | refine CV.region callees ?_
      | refine CV.cond ?_
      | refine CV.skip ?_
      | (refine ints_slice hg (by omega) (by omega) ?_)
      | fail
    intro q hq
    have hq' : Ints H1 q (gs.take i) := hq
    repeat' first
      | refine CO.cons rfl ?_
      | fail
    refine (contains_spec (t := gs[i]!) (by omega) hq' (by rw [List.length_take]; omega)).mono ?_
    by_cases c2 : gs[i]! ∈ gs.take i
    · rw [decide_eq_true c2]
      rw [if_pos c2] at hw
      rintro r H2 ⟨rfl, rfl⟩
      repeat' first
        | refine CO.cons rfl ?_
        | refine CO.nil ?_
        | refine CV.seq ?_
        | refine CV.region callees ?_
        | refine CV.cond ?_
        | refine CV.ret ?_
        | fail
      exact ⟨rfl, by rw [← hw], rfl⟩
    · rw [decide_eq_false c2]
      rw [if_neg c2, ← tk_at hi2] at hw
      rintro r H2 ⟨rfl, rfl⟩
      repeat' first
        | refine CO.cons rfl ?_
        | refine CO.nil ?_
        | refine CV.region callees ?_
        | refine CV.cond ?_
        | refine CV.skip ?_
        | refine ⟨(⟨by omega, by omega⟩ : inI64 _), ?_⟩
        | fail
      refine ⟨(i + 1), (by repeat' first | exact trivial | refine ⟨rfl, ?_⟩ | refine ⟨slot_int (by (try simp only [Int.toNat_natCast]); omega), ?_⟩), (by (try dsimp only); omega), ?_⟩
      exact ⟨by omega, hw, rfl⟩
  obtain rfl : i = gs.length := by omega
  rw [List.drop_length] at hw
  repeat' first
    | refine CO.cons rfl ?_
    | refine CO.nil ?_
    | refine CV.seq ?_
    | refine CV.region callees ?_
    | refine CV.cond ?_
    | refine CV.exit ?_
    | refine CV.ret ?_
    | (refine ⟨fun _ => ?_, fun _ => ?_⟩ <;> first | (exfalso; omega) | skip)
    | fail
  exact ⟨rfl, by rw [← hw]; rfl, rfl⟩
set_option maxRecDepth 100000 in
theorem checkSeason_spec [Orc] {B : Nat} {H : Heap} {s g : Value} {gv : List Value} {st : List Int} {gs : List (List Int)} (hB : B ≤ H.n) (hs : Ints H s st) (hg : Gri H g gv gs) (hsn : st.length < 1000000) (hgn : gs.length < 1000000) (hgg : ∀ x ∈ gs, x.length < 1000000) :
    CallB Try.prog B 52 [Sev s g] H (fun r H' => r = VI (seaE st gs) ∧ Keep H H') := by
  refine CV.enter callees false (Orc.hv rfl rfl) Try.func52 rfl (by kernel_rfl) (Nat.le_of_ble_eq_true rfl) hB ?_ (Orc.hw rfl rfl)
  repeat' first
    | refine CO.cons rfl ?_
    | refine CV.seq ?_
    | refine CV.region callees ?_
    | fail
  refine ⟨(by simp only [notTuple]), ?_⟩
  rw [boxSe]
  generalize hs0 : Heap.new H _ = H0
  have hg0 := new_get hs0
  have k0 := new_keep hs0
  have n0 := new_n hs0
  obtain ⟨b0, hbn0⟩ : ∃ b, Heap.n H = b := ⟨_, rfl⟩
  rw [hbn0] at hg0 n0 ⊢
  have hs0 : Ints H0 s st := hs.keep k0
  have hgr := hg.keep k0
  have l0 := k0.1
  by_cases h0 : st.length = 0
  · have e : seaE st gs = 6 := by unfold seaE; rw [if_pos h0]
    repeat' first
      | refine CO.cons rfl ?_
      | refine CO.nil ?_
      | refine CV.seq ?_
      | refine CV.region callees ?_
      | refine CV.cond ?_
      | refine CV.ret ?_
      | refine ⟨_, ints_len (by assumption), ?_⟩
      | (refine ⟨_, fS fe0 (by decide), ?_⟩)
      | (refine ⟨_, cell_load agN hg0 rfl, ?_⟩)
      | (refine ⟨fun _ => ?_, fun _ => ?_⟩ <;> first | (exfalso; omega) | skip)
      | fail
    exact ⟨rfl, by rw [e], k0⟩
  by_cases h4 : 4 < st.length
  · have e : seaE st gs = 8 := by unfold seaE; rw [if_neg h0, if_pos h4]
    repeat' first
      | refine CO.cons rfl ?_
      | refine CO.nil ?_
      | refine CV.seq ?_
      | refine CV.region callees ?_
      | refine CV.cond ?_
      | refine CV.skip ?_
      | refine CV.ret ?_
      | refine ⟨_, ints_len (by assumption), ?_⟩
      | (refine ⟨_, fS fe0 (by decide), ?_⟩)
      | (refine ⟨_, cell_load agN hg0 rfl, ?_⟩)
      | (refine ⟨fun _ => ?_, fun _ => ?_⟩ <;> first | (exfalso; omega) | skip)
      | fail
    exact ⟨rfl, by rw [e], k0⟩
  repeat' first
    | refine CO.cons rfl ?_
    | refine CO.nil ?_
    | refine CV.seq ?_
    | refine CV.region callees ?_
    | refine CV.cond ?_
    | refine CV.block ?_
    | refine CV.skip ?_
    | refine ⟨_, ints_len (by assumption), ?_⟩
    | (refine ⟨_, fS fe0 (by decide), ?_⟩)
    | (refine ⟨_, cell_load agN hg0 rfl, ?_⟩)
    | (refine ⟨fun _ => ?_, fun _ => ?_⟩ <;> first | (exfalso; omega) | skip)
    | fail
  refine CV.loopc ?_
  refine WCv.rounds callees false (α := Nat) (fun i => [(1, .pointer (some ⟨b0, 0, none⟩)), (17, s), (18, VI st.length), (19, VI i)]) (fun i Hz => i ≤ st.length ∧ soE (st.drop i) = soE st ∧ Hz = H0) (fun i => st.length - i) (0) (by repeat' first | exact trivial | refine ⟨rfl, ?_⟩ | refine ⟨slot_int (by (try simp only [Int.toNat_natCast]); omega), ?_⟩) ?_ ?_
  · exact ⟨by omega, rfl, rfl⟩
  rintro i Hx ⟨hi, hw, rfl⟩ hBx
  by_cases hi2 : i < st.length
  · rw [dr_at hi2] at hw
    simp only [soE] at hw
    repeat' first
      | refine CO.cons rfl ?_
      | refine CO.nil ?_
      | refine CV.seq ?_
      | refine CV.region callees ?_
      | refine CV.cond ?_
      | refine CV.block ?_
      | refine CV.skip ?_
      | refine ⟨_, ints_addr (by assumption) (by omega) (by omega), ?_⟩
      | refine ⟨_, ints_load (by assumption) (by omega) (by omega), ?_⟩
      | (refine ⟨fun _ => ?_, fun _ => ?_⟩ <;> first | (exfalso; omega) | skip)
      | fail
    refine (within_spec (n := st[i]!) (by omega)).mono ?_
    cases c1 : inB st[i]! 1 6
    · rintro r H1 ⟨rfl, rfl⟩
      rw [c1, cond_false] at hw
      have e : seaE st gs = 2 := by unfold seaE; rw [if_neg h0, if_neg h4, if_neg (by rw [← hw]; decide)]
      repeat' first
        | refine CO.cons rfl ?_
        | refine CO.nil ?_
        | refine CV.seq ?_
        | refine CV.region callees ?_
        | refine CV.cond ?_
        | refine CV.ret ?_
        | fail
      exact ⟨rfl, by rw [e], k0⟩
    rintro r H1 ⟨rfl, rfl⟩
    rw [c1, cond_true] at hw
    repeat' first
      | refine CO.cons rfl ?_
      | refine CO.nil ?_
      | refine CV.region callees ?_
      | refine CV.cond ?_
      | refine CV.skip ?_
      | refine ⟨(⟨by omega, by omega⟩ : inI64 _), ?_⟩
      | fail
    refine ⟨(i + 1), (by repeat' first | exact trivial | refine ⟨rfl, ?_⟩ | refine ⟨slot_int (by (try simp only [Int.toNat_natCast]); omega), ?_⟩), (by (try dsimp only); omega), ?_⟩
    exact ⟨by omega, hw, rfl⟩
  obtain rfl : i = st.length := by omega
  rw [List.drop_length] at hw
  have hso : soE st = 0 := hw.symm
  clear hw
  by_cases h9 : 9 < gs.length
  · have e : seaE st gs = 8 := by unfold seaE; rw [if_neg h0, if_neg h4, if_pos hso, if_pos h9]
    repeat' first
      | refine CO.cons rfl ?_
      | refine CO.nil ?_
      | refine CV.seq ?_
      | refine CV.region callees ?_
      | refine CV.cond ?_
      | refine CV.exit ?_
      | refine CV.ret ?_
      | (refine ⟨_, fS fe1 (by decide), ?_⟩)
      | (refine ⟨_, cell_load agGr hg0 rfl, ?_⟩)
      | (refine ⟨_, hgr.alen, ?_⟩)
      | (refine ⟨fun _ => ?_, fun _ => ?_⟩ <;> first | (exfalso; omega) | skip)
      | fail
    exact ⟨rfl, by rw [e], k0⟩
  have e : seaE st gs = gsE gs := by unfold seaE; rw [if_neg h0, if_neg h4, if_pos hso, if_neg h9]
  repeat' first
    | refine CO.cons rfl ?_
    | refine CO.nil ?_
    | refine CV.seq ?_
    | refine CV.region callees ?_
    | refine CV.cond ?_
    | refine CV.block ?_
    | refine CV.skip ?_
    | refine CV.exit ?_
    | (refine ⟨_, fS fe1 (by decide), ?_⟩)
    | (refine ⟨_, cell_load agGr hg0 rfl, ?_⟩)
    | (refine ⟨_, hgr.alen, ?_⟩)
    | (refine ⟨fun _ => ?_, fun _ => ?_⟩ <;> first | (exfalso; omega) | skip)
    | fail
  refine CV.loopc ?_
  refine WCv.rounds callees false (α := Nat) (fun i => [(32, g), (33, VI gs.length), (34, VI i)]) (fun i Hz => i ≤ gs.length ∧ gsE (gs.drop i) = seaE st gs ∧ Hz = Hx) (fun i => gs.length - i) (0) (by repeat' first | exact trivial | refine ⟨rfl, ?_⟩ | refine ⟨slot_int (by (try simp only [Int.toNat_natCast]); omega), ?_⟩) ?_ ?_
  · exact ⟨by omega, e.symm, rfl⟩
  rintro i Hy ⟨hi, hw, rfl⟩ hBy
  by_cases hi2 : i < gs.length
  · rw [dr_at hi2] at hw
    simp only [gsE] at hw
    repeat' first
      | refine CO.cons rfl ?_
      | refine CO.nil ?_
      | refine CV.seq ?_
      | refine CV.region callees ?_
      | refine CV.cond ?_
      | refine CV.block ?_
      | refine CV.skip ?_
      | (refine ⟨_, hgr.addr hi2, ?_⟩)
      | (refine ⟨_, hgr.load hi2, ?_⟩)
      | (refine ⟨fun _ => ?_, fun _ => ?_⟩ <;> first | (exfalso; omega) | skip)
      | fail
    refine (checkGuests_spec (by omega) (hgr.ints i hi2) (hgg _ (by rw [getElem!_pos gs i hi2]; exact List.getElem_mem _))).mono ?_
    rintro r H1 ⟨rfl, rfl⟩
    by_cases c1 : guestsE gs[i]! = 0
    · rw [if_pos c1] at hw
      rw [c1]
      repeat' first
        | refine CO.cons rfl ?_
        | refine CO.nil ?_
        | refine CV.seq ?_
        | refine CV.region callees ?_
        | refine CV.cond ?_
        | refine CV.skip ?_
        | refine ⟨(⟨by omega, by omega⟩ : inI64 _), ?_⟩
        | (refine ⟨fun _ => ?_, fun _ => ?_⟩ <;> first | (exfalso; omega) | skip)
        | fail
      refine ⟨(i + 1), (by repeat' first | exact trivial | refine ⟨rfl, ?_⟩ | refine ⟨slot_int (by (try simp only [Int.toNat_natCast]); omega), ?_⟩), (by (try dsimp only); omega), ?_⟩
      exact ⟨by omega, hw, rfl⟩
    · rw [if_neg c1] at hw
      repeat' first
        | refine CO.cons rfl ?_
        | refine CO.nil ?_
        | refine CV.seq ?_
        | refine CV.region callees ?_
        | refine CV.cond ?_
        | refine CV.ret ?_
        | (refine ⟨fun _ => ?_, fun _ => ?_⟩ <;> first | (exfalso; omega) | skip)
        | fail
      exact ⟨rfl, by rw [← hw], k0⟩
  obtain rfl : i = gs.length := by omega
  rw [List.drop_length] at hw
  repeat' first
    | refine CO.cons rfl ?_
    | refine CO.nil ?_
    | refine CV.seq ?_
    | refine CV.region callees ?_
    | refine CV.cond ?_
    | refine CV.exit ?_
    | refine CV.ret ?_
    | (refine ⟨fun _ => ?_, fun _ => ?_⟩ <;> first | (exfalso; omega) | skip)
    | fail
  exact ⟨rfl, by rw [← hw]; rfl, k0⟩
/-- How many combinations there are. -/
def combos : List Int → Int
  | [] => 1
  | s :: t => s * combos t
end Go.Proofs.Ytijimplcjaeneaa



/- Seasons: the reference's check; how many combinations. -/
namespace Go.Proofs.Ytijimplcjaeneaa
open Go.AI
theorem combos_snoc {x : Int} : ∀ {l : List Int}, combos (l ++ [x]) = combos l * x
  | [] => by simp [combos]
  | s :: t => by
    simp only [List.cons_append, combos]
    rw [combos_snoc, Int.mul_assoc]
theorem soE_mem : ∀ {l : List Int}, soE l = 0 → ∀ x ∈ l, 1 ≤ x ∧ x ≤ 6
  | s :: t, h, x, hx => by
    simp only [soE] at h
    cases c : inB s 1 6 with
    | false => rw [c, cond_false] at h; cases h
    | true =>
      rw [c, cond_true] at h
      simp only [inB, Bool.and_eq_true, decide_eq_true_eq] at c
      rcases List.mem_cons.1 hx with rfl | hx
      · exact c
      · exact soE_mem h x hx
theorem combos_bd : ∀ {l : List Int}, (∀ x ∈ l, 1 ≤ x ∧ x ≤ 6) → 1 ≤ combos l ∧ combos l ≤ 6 ^ l.length
  | [], _ => by simp [combos]
  | s :: t, h => by
    have h1 := h s (by simp)
    have h2 := combos_bd (l := t) fun x hx => h x (by simp [hx])
    have h3 : s * combos t ≤ 6 * 6 ^ t.length := Int.mul_le_mul h1.2 h2.2 (by omega) (by omega)
    have h4 : 1 * 1 ≤ s * combos t := Int.mul_le_mul h1.1 h2.1 (by omega) (by omega)
    simp only [combos, List.length_cons]
    rw [Int.pow_succ]
    omega
structure SoOk (st : List Int) : Prop where
  n : st.length ≤ 4
  p : 0 < st.length
  m : ∀ x ∈ st, 1 ≤ x ∧ x ≤ 6
theorem SoOk.bd {st : List Int} (h : SoOk st) (i : Nat) : 1 ≤ combos (st.take i) ∧ combos (st.take i) ≤ 1296 := by
  have h1 := combos_bd (l := st.take i) fun x hx => h.m x (List.mem_of_mem_take hx)
  have h2 : (st.take i).length ≤ 4 := by rw [List.length_take]; have := h.n; omega
  refine ⟨h1.1, ?_⟩
  have h3 : (6 : Int) ^ (st.take i).length ≤ 1296 := by
    generalize (st.take i).length = n at h2
    rcases (by omega : n = 0 ∨ n = 1 ∨ n = 2 ∨ n = 3 ∨ n = 4) with rfl | rfl | rfl | rfl | rfl <;> decide
  omega
theorem SoOk.all {st : List Int} (h : SoOk st) : 1 ≤ combos st ∧ combos st ≤ 1296 := by
  have := h.bd st.length
  rwa [List.take_length] at this
theorem seaE_ok {st : List Int} {gs : List (List Int)} (h : seaE st gs = 0) : SoOk st ∧ gs.length ≤ 9 ∧ gsE gs = 0 := by
  unfold seaE at h
  by_cases h0 : st.length = 0
  · rw [if_pos h0] at h; cases h
  rw [if_neg h0] at h
  by_cases h4 : 4 < st.length
  · rw [if_pos h4] at h; cases h
  rw [if_neg h4] at h
  by_cases h5 : soE st = 0
  · rw [if_pos h5] at h
    by_cases h9 : 9 < gs.length
    · rw [if_pos h9] at h; cases h
    · rw [if_neg h9] at h
      exact ⟨⟨by omega, by omega, soE_mem h5⟩, by omega, h⟩
  · rw [if_neg h5] at h; cases h
set_option maxRecDepth 100000 in
theorem combos_spec [Orc] {B : Nat} {H : Heap} {s g : Value} {st : List Int} (hB : B ≤ H.n) (hs : Ints H s st) (hok : SoOk st) :
    CallB Try.prog B 130 [Sev s g] H (fun r H' => r = VI (combos st) ∧ Keep H H') := by
  have hn := hok.n
  refine CV.enter callees false (Orc.hv rfl rfl) Try.func130 rfl (by kernel_rfl) (Nat.le_of_ble_eq_true rfl) hB ?_ (Orc.hw rfl rfl)
  repeat' first
    | refine CO.cons rfl ?_
    | refine CV.seq ?_
    | refine CV.region callees ?_
    | fail
  refine ⟨(by simp only [notTuple]), ?_⟩
  rw [boxSe]
  generalize hs0 : Heap.new H _ = H0
  have hg0 := new_get hs0
  have k0 := new_keep hs0
  have n0 := new_n hs0
  obtain ⟨b0, hbn0⟩ : ∃ b, Heap.n H = b := ⟨_, rfl⟩
  rw [hbn0] at hg0 n0 ⊢
  have hs0 : Ints H0 s st := hs.keep k0
  have l0 := k0.1
  repeat' first
    | refine CO.cons rfl ?_
    | refine CO.nil ?_
    | refine CV.seq ?_
    | refine CV.region callees ?_
    | refine CV.block ?_
    | refine ⟨_, ints_len (by assumption), ?_⟩
    | (refine ⟨_, fS fe0 (by decide), ?_⟩)
    | (refine ⟨_, cell_load agN hg0 rfl, ?_⟩)
    | fail
  refine CV.loopc ?_
  refine WCv.rounds callees false (α := Nat) (fun i => [(3, VI (combos (st.take i))), (7, s), (8, VI st.length), (9, VI i)]) (fun i Hz => i ≤ st.length ∧ Hz = H0) (fun i => st.length - i) (0) (by repeat' first | exact trivial | refine ⟨rfl, ?_⟩ | refine ⟨slot_int (by (try simp only [Int.toNat_natCast]); omega), ?_⟩) ?_ ?_
  · exact ⟨by omega, rfl⟩
  rintro i Hx ⟨hi, rfl⟩ hBx
  by_cases hi2 : i < st.length
  · have hb := hok.bd (i + 1)
    have hm : combos (st.take i) * st[i]! = combos (st.take (i + 1)) := by rw [tk_at hi2, combos_snoc]
    have hm' : combos (st.take i) * st[(i : Int).toNat]! = combos (st.take (i + 1)) := hm
    repeat' first
      | refine CO.cons rfl ?_
      | refine CO.nil ?_
      | refine CV.seq ?_
      | refine CV.region callees ?_
      | refine CV.cond ?_
      | refine CV.block ?_
      | refine CV.skip ?_
      | refine ⟨_, ints_addr (by assumption) (by omega) (by omega), ?_⟩
      | refine ⟨_, ints_load (by assumption) (by omega) (by omega), ?_⟩
      | refine ⟨(⟨by omega, by omega⟩ : inI64 _), ?_⟩
      | (refine ⟨fun _ => ?_, fun _ => ?_⟩ <;> first | (exfalso; omega) | skip)
      | fail
    refine ⟨(i + 1), (by repeat' first | exact trivial | refine ⟨rfl, ?_⟩ | refine ⟨slot_int (by (try simp only [Int.toNat_natCast]); omega), ?_⟩), (by (try dsimp only); omega), ?_⟩
    exact ⟨by omega, rfl⟩
  obtain rfl : i = st.length := by omega
  rw [List.take_length]
  repeat' first
    | refine CO.cons rfl ?_
    | refine CO.nil ?_
    | refine CV.seq ?_
    | refine CV.region callees ?_
    | refine CV.cond ?_
    | refine CV.exit ?_
    | refine CV.ret ?_
    | (refine ⟨fun _ => ?_, fun _ => ?_⟩ <;> first | (exfalso; omega) | skip)
    | fail
  exact ⟨rfl, rfl, k0⟩
set_option maxRecDepth 100000 in
theorem combosR_spec [Orc] {B : Nat} {H : Heap} {s g : Value} {st : List Int} (hB : B ≤ H.n) (hs : Ints H s st) (hok : SoOk st) :
    CallB Try.prog B 45 [Sev s g] H (fun r H' => r = VI (combos st) ∧ Keep H H') := by
  have hn := hok.n
  refine CV.enter callees false (Orc.hv rfl rfl) Try.func45 rfl (by kernel_rfl) (Nat.le_of_ble_eq_true rfl) hB ?_ (Orc.hw rfl rfl)
  repeat' first
    | refine CO.cons rfl ?_
    | refine CV.seq ?_
    | refine CV.region callees ?_
    | fail
  refine ⟨(by simp only [notTuple]), ?_⟩
  rw [boxSe]
  generalize hs0 : Heap.new H _ = H0
  have hg0 := new_get hs0
  have k0 := new_keep hs0
  have n0 := new_n hs0
  obtain ⟨b0, hbn0⟩ : ∃ b, Heap.n H = b := ⟨_, rfl⟩
  rw [hbn0] at hg0 n0 ⊢
  have hs0 : Ints H0 s st := hs.keep k0
  have l0 := k0.1
  repeat' first
    | refine CO.cons rfl ?_
    | refine CO.nil ?_
    | refine CV.seq ?_
    | refine CV.region callees ?_
    | refine CV.block ?_
    | fail
  refine CV.loopc ?_
  refine WCv.rounds callees false (α := Nat) (fun i => [(1, .pointer (some ⟨b0, 0, none⟩)), (3, VI (combos (st.take i))), (4, VI i)]) (fun i Hz => i ≤ st.length ∧ Hz = H0) (fun i => st.length - i) (0) (by repeat' first | exact trivial | refine ⟨rfl, ?_⟩ | refine ⟨slot_int (by (try simp only [Int.toNat_natCast]); omega), ?_⟩) ?_ ?_
  · exact ⟨by omega, rfl⟩
  rintro i Hx ⟨hi, rfl⟩ hBx
  by_cases hi2 : i < st.length
  · have hb := hok.bd (i + 1)
    have hm : combos (st.take i) * st[i]! = combos (st.take (i + 1)) := by rw [tk_at hi2, combos_snoc]
    have hm' : combos (st.take i) * st[(i : Int).toNat]! = combos (st.take (i + 1)) := hm
    repeat' first
      | refine CO.cons rfl ?_
      | refine CO.nil ?_
      | refine CV.seq ?_
      | refine CV.region callees ?_
      | refine CV.cond ?_
      | refine CV.block ?_
      | refine CV.skip ?_
      | refine ⟨_, ints_len (by assumption), ?_⟩
      | refine ⟨_, ints_addr (by assumption) (by omega) (by omega), ?_⟩
      | refine ⟨_, ints_load (by assumption) (by omega) (by omega), ?_⟩
      | refine ⟨(⟨by omega, by omega⟩ : inI64 _), ?_⟩
      | (refine ⟨_, fS fe0 (by decide), ?_⟩)
      | (refine ⟨_, cell_load agN hg0 rfl, ?_⟩)
      | (refine ⟨fun _ => ?_, fun _ => ?_⟩ <;> first | (exfalso; omega) | skip)
      | fail
    refine ⟨(i + 1), (by repeat' first | exact trivial | refine ⟨rfl, ?_⟩ | refine ⟨slot_int (by (try simp only [Int.toNat_natCast]); omega), ?_⟩), (by (try dsimp only); omega), ?_⟩
    exact ⟨by omega, rfl⟩
  obtain rfl : i = st.length := by omega
  rw [List.take_length]
  repeat' first
    | refine CO.cons rfl ?_
    | refine CO.nil ?_
    | refine CV.seq ?_
    | refine CV.region callees ?_
    | refine CV.cond ?_
    | refine CV.exit ?_
    | refine CV.ret ?_
    | refine ⟨_, ints_len (by assumption), ?_⟩
    | (refine ⟨_, fS fe0 (by decide), ?_⟩)
    | (refine ⟨_, cell_load agN hg0 rfl, ?_⟩)
    | (refine ⟨fun _ => ?_, fun _ => ?_⟩ <;> first | (exfalso; omega) | skip)
    | fail
  exact ⟨rfl, rfl, k0⟩
set_option maxRecDepth 100000 in
theorem isCombo_spec [Orc] {B : Nat} {H : Heap} {s g : Value} {st : List Int} {n : Int} (hB : B ≤ H.n) (hs : Ints H s st) (hok : SoOk st) :
    CallB Try.prog B 103 [Sev s g, VI n] H (fun r H' => r = .bool (inB n 0 (combos st - 1)) ∧ Keep H H') := by
  have hc := hok.all
  refine CV.enter callees false (Orc.hv rfl rfl) Try.func103 rfl (by kernel_rfl) (Nat.le_of_ble_eq_true rfl) hB ?_ (Orc.hw rfl rfl)
  repeat' first
    | refine CO.cons rfl ?_
    | refine CV.seq ?_
    | refine CV.region callees ?_
    | fail
  refine ⟨(by simp only [notTuple]), ?_⟩
  rw [boxSe]
  generalize hs0 : Heap.new H _ = H0
  have hg0 := new_get hs0
  have k0 := new_keep hs0
  have n0 := new_n hs0
  obtain ⟨b0, hbn0⟩ : ∃ b, Heap.n H = b := ⟨_, rfl⟩
  rw [hbn0] at hg0 n0 ⊢
  have hs0 : Ints H0 s st := hs.keep k0
  have l0 := k0.1
  repeat' first
    | refine CO.cons rfl ?_
    | refine CO.nil ?_
    | refine CV.seq ?_
    | refine CV.region callees ?_
    | (refine ⟨_, ldSe hg0, ?_⟩)
    | fail
  refine (combos_spec (by omega) hs0 hok).mono ?_
  rintro r H1 ⟨rfl, k1⟩
  have l1 := k1.1
  repeat' first
    | refine CO.cons rfl ?_
    | refine ⟨(⟨by omega, by omega⟩ : inI64 _), ?_⟩
    | fail
  refine (within_spec (by omega)).mono ?_
  rintro r H2 ⟨rfl, rfl⟩
  repeat' first
    | refine CO.cons rfl ?_
    | refine CO.nil ?_
    | refine CV.ret ?_
    | fail
  exact ⟨rfl, rfl, k0.trans k1⟩
end Go.Proofs.Ytijimplcjaeneaa



/- Combinations, by the program and by the reference. -/
namespace Go.Proofs.Ytijimplcjaeneaa
open Go.AI
end Go.Proofs.Ytijimplcjaeneaa



/- Meetings: a map keyed by guests and combinations. -/
namespace Go.Proofs.Ytijimplcjaeneaa
open Go.AI
theorem eq_ints {t : TypeId} {k : IntKind} {a b : Int} {d : Nat} (ht : Try.prog.underlying t = some (.int k)) : pureRun Try.prog (Op.equalIn (d + 1) t (.int .i64 a) (.int .i64 b)) = some (a == b) := by
  rw [Op.equalIn, pureRun_bind, pureRun_underlying ht]
  simp
  rfl
theorem unK : Try.prog.underlying 171 = some (.array 2 3) := by kernel_rfl
theorem partK0 {a b : Int} : pureRun Try.prog (part 3 #[Value.int IntKind.i64 a, Value.int IntKind.i64 b] 0) = some (.int .i64 a) := by kernel_rfl
theorem partK1 {a b : Int} : pureRun Try.prog (part 3 #[Value.int IntKind.i64 a, Value.int IntKind.i64 b] 1) = some (.int .i64 b) := by kernel_rfl
theorem sizeK : pureRun Try.prog (sizeOf 3) = some 1 := by kernel_rfl
set_option maxRecDepth 100000 in
theorem eqK {a b c d : Int} : pureRun Try.prog (Op.equal 171 (.agg #[.int .i64 a, .int .i64 b]) (.agg #[.int .i64 c, .int .i64 d])) = some ((a == c) && (b == d)) := by
  unfold Op.equal
  rw [show Op.maxDepth = 9998 + 1 + 1 from rfl, Op.equalIn, pureRun_bind, pureRun_underlying unK]
  simp only [Option.bind_some]
  rw [pureRun_bind, sizeK, Option.bind_some, pureRun_bind, Std.Legacy.Range.forIn_eq_forIn_range', show List.range' ([:2] : Std.Legacy.Range).start ([:2] : Std.Legacy.Range).size ([:2] : Std.Legacy.Range).step = [0, 1] from rfl]
  simp only [List.forIn_cons, List.forIn_nil]
  simp only [pureRun_bind]
  simp only [show (0 * 1 : Nat) = 0 from rfl, show (1 * 1 : Nat) = 1 from rfl, partK0, Option.bind_some, eq_ints un3]
  cases (a == c) with
  | false => rfl
  | true =>
    have hp : ∀ {α : Type} (x : α), pureRun Try.prog (pure x) = some x := fun _ => rfl
    simp only [Bool.not_true, Bool.false_eq_true, if_false, hp, Option.bind_some, pureRun_bind, partK1, eq_ints un3, Bool.true_and]
    cases (b == d) <;> rfl
abbrev Kv (k : Int × Int) : Value := .agg #[VI k.1, VI k.2]
theorem keysK {a b : Int × Int} : pureRun Try.prog (Op.equal 171 (Kv a) (Kv b)) = some (decide (a = b)) := by
  refine eqK.trans (congrArg some ?_)
  cases a; cases b
  simp [Bool.decide_and]
  rfl
theorem keysK_bits {p : Int × Int} : Instr.sameBits 10000 (Kv p) (Kv p) = true := by
  rw [show (10000 : Nat) = 9999 + 1 from rfl]
  simp [Instr.sameBits]
theorem keysK_hash {p : Int × Int} (x : Bool) : (pureRun Try.prog (Instr.checkKey x 10000 171 (Kv p))).isSome = true := by
  cases x <;> kernel_rfl
theorem zero3 : (Try.prog.info? 3).bind (·.zero) = some (VI 0) := by kernel_rfl
theorem unMe : Try.prog.underlying 149 = some (.map 171 3) := by kernel_rfl
/-- The entries: how often, by keys. -/
abbrev entM (W : Int × Int → Int) (M : List (Int × Int)) : List (Value × Value) := M.map fun p => (Kv p, VI (W p))
theorem findM {W : Int × Int → Int} {k : Int × Int} : ∀ (M : List (Int × Int)) (i : Nat),
    (k ∈ M → M.idxOf k < M.length ∧ findQ Try.prog 171 (Kv k) (entM W M) i = some (some (i + M.idxOf k, VI (W k)))) ∧ (k ∉ M → findQ Try.prog 171 (Kv k) (entM W M) i = some none)
  | [], i => ⟨fun h => (by cases h), fun _ => rfl⟩
  | x :: ks, i => by
    have ih := findM (W := W) (k := k) ks (i + 1)
    have he := keysK (a := k) (b := x)
    have hf : findQ Try.prog 171 (Kv k) (entM W (x :: ks)) i = if k = x then some (some (i, VI (W x))) else findQ Try.prog 171 (Kv k) (entM W ks) (i + 1) := by
      simp only [entM, List.map_cons, findQ, he]
      by_cases hkx : k = x
      · rw [if_pos hkx]; simp only [decide_eq_true hkx]
      · rw [if_neg hkx]; simp only [decide_eq_false hkx]
    refine ⟨fun hm => ?_, fun hm => ?_⟩
    · rw [hf]
      by_cases hkx : k = x
      · subst hkx; rw [if_pos rfl]; exact ⟨by simp, by simp⟩
      · rw [if_neg hkx]
        obtain ⟨h1, h2⟩ := ih.1 (by simpa [hkx] using hm)
        have hne : ¬ x = k := fun h => hkx h.symm
        refine ⟨by rw [List.idxOf_cons, beq_eq_false_iff_ne.2 hne, cond_false, List.length_cons]; omega, ?_⟩
        rw [h2, List.idxOf_cons, beq_eq_false_iff_ne.2 hne, cond_false, show i + 1 + List.idxOf k ks = i + (List.idxOf k ks + 1) by omega]
    · rw [hf, if_neg (fun e => hm (by simp [e]))]
      exact ih.2 (fun e => hm (by simp [e]))
theorem findA_K (W : Int × Int → Int) (k : Int × Int) (M : List (Int × Int)) : findA (.array 2 3) (Kv k) (entM W M) 0 = none ∨ (M = [] ∧ findA (.array 2 3) (Kv k) (entM W M) 0 = some none) := by
  cases M with
  | nil => exact .inr ⟨rfl, rfl⟩
  | cons x M => exact .inl rfl
/-- How often, whatever is in the map: none if it is not. -/
def cntM (W : Int × Int → Int) (M : List (Int × Int)) (k : Int × Int) : Int := if k ∈ M then W k else 0
theorem lookM {H : Heap} {r : Nat} {W : Int × Int → Int} {M : List (Int × Int)} {k : Int × Int} (hg : H.get r = some (.map (entM W M))) :
    alookup Try.prog H 149 (.map (some r)) (Kv k) false = some (VI (cntM W M k)) := by
  obtain ⟨h1, h2⟩ := findM (W := W) (k := k) M 0
  simp only [alookup, unMe, amap, hg, unK, zero3]
  rw [if_pos ⟨rfl, rfl, rfl, keysK_hash _⟩]
  unfold cntM
  by_cases hm : k ∈ M
  · rw [if_pos hm]
    rcases findA_K W k M with hA | ⟨rfl, hA⟩
    · rw [hA, (h1 hm).2]; rfl
    · cases hm
  · rw [if_neg hm]
    rcases findA_K W k M with hA | ⟨rfl, hA⟩
    · rw [hA, h2 hm]; rfl
    · rw [hA]; rfl
def putM (M : List (Int × Int)) (k : Int × Int) : List (Int × Int) := if k ∈ M then M else M ++ [k]
def setW (W : Int × Int → Int) (k : Int × Int) (x : Int) : Int × Int → Int := fun p => if p = k then x else W p
theorem cntM_put {W : Int × Int → Int} {M : List (Int × Int)} {k p : Int × Int} {x : Int} : cntM (setW W k x) (putM M k) p = if p = k then x else cntM W M p := by
  unfold cntM putM setW
  by_cases hm : k ∈ M
  · rw [if_pos hm]
    by_cases hp : p = k
    · subst hp; rw [if_pos hm, if_pos rfl, if_pos rfl]
    · rw [if_neg hp, if_neg hp]
  · rw [if_neg hm]
    by_cases hp : p = k
    · subst hp; rw [if_pos (by simp), if_pos rfl, if_pos rfl]
    · rw [if_neg hp, if_neg hp]
      by_cases h : p ∈ M
      · rw [if_pos (by simp [h]), if_pos h]
      · rw [if_neg (by simp [h, hp]), if_neg h]
theorem putM_mem {M : List (Int × Int)} {k : Int × Int} : k ∈ putM M k := by
  unfold putM
  by_cases hm : k ∈ M
  · rw [if_pos hm]; exact hm
  · rw [if_neg hm]; simp
theorem putM_nodup {M : List (Int × Int)} {k : Int × Int} (h : M.Nodup) : (putM M k).Nodup := by
  unfold putM
  by_cases hm : k ∈ M
  · rw [if_pos hm]; exact h
  · rw [if_neg hm]
    refine List.nodup_append.2 ⟨h, by simp, fun a ha b hb => ?_⟩
    rw [List.mem_singleton] at hb
    subst hb
    rintro rfl
    exact hm ha
/-- Room for a key. -/
theorem entryM {H : Heap} {r : Nat} {W : Int × Int → Int} {M : List (Int × Int)} {k : Int × Int} (hg : H.get r = some (.map (entM W M))) :
    amapEntry Try.prog H 149 (.map (some r)) (Kv k) = some (.tuple #[VI (cntM W M k), VI ((putM M k).idxOf k)], H.set r (.map (entM (setW W k (cntM W M k)) (putM M k))), r) := by
  obtain ⟨h1, h2⟩ := findM (W := W) (k := k) M 0
  simp only [amapEntry, unMe, hg, unK, zero3]
  rw [if_pos ⟨rfl, rfl, rfl, keysK_hash _⟩]
  unfold cntM putM
  by_cases hm : k ∈ M
  · obtain ⟨h3, h4⟩ := h1 hm
    rw [if_pos hm, if_pos hm]
    have hent : (entM W M)[M.idxOf k]? = some (Kv k, VI (W k)) := by
      rw [List.getElem?_map, List.getElem?_eq_getElem h3, List.getElem_idxOf]; rfl
    have hb : bitsAt (entM W M) (0 + M.idxOf k) (Kv k) = true := by
      rw [Nat.zero_add]
      simp only [bitsAt, hent]
      exact keysK_bits
    have hset : (entM W M).set (0 + M.idxOf k) (Kv k, VI (W k)) = entM (setW W k (W k)) M := by
      obtain ⟨hj1, hj2⟩ := List.getElem?_eq_some_iff.1 hent
      have e : setW W k (W k) = W := by funext p; unfold setW; split <;> simp_all
      rw [e, Nat.zero_add, ← hj2]; exact List.set_getElem_self hj1
    rcases findA_K W k M with hA | ⟨rfl, hA⟩
    · rw [hA]
      simp only [h4]
      rw [if_pos ⟨hb, rfl⟩, hset, Nat.zero_add]
    · cases hm
  · rw [if_neg hm, if_neg hm]
    have e : entM W M ++ [(Kv k, VI 0)] = entM (setW W k 0) (M ++ [k]) := by
      unfold entM
      rw [List.map_append]
      congr 1
      · apply List.map_congr_left
        intro p hp
        unfold setW
        rw [if_neg (fun e : p = k => hm (by rw [← e]; exact hp))]
      · simp [setW]
    have hidx : (M ++ [k]).idxOf k = M.length := by
      rw [List.idxOf_append, if_neg hm]; simp
    have hlen : (entM W M).length = M.length := List.length_map ..
    rcases findA_K W k M with hA | ⟨rfl, hA⟩
    · rw [hA]
      simp only [h2 hm]
      rw [e, hidx, hlen]
    · rw [hA]
      simp only []
      rw [e, hidx, hlen]
theorem storeM {H : Heap} {r : Nat} {W : Int × Int → Int} {M : List (Int × Int)} {k : Int × Int} {x : Int} (hg : H.get r = some (.map (entM W M))) (hm : k ∈ M) (hnd : M.Nodup) :
    aentryStore H (.map (some r)) (VI (M.idxOf k)) (VI x) = some (H.set r (.map (entM (setW W k x) M)), r) := by
  have hlen : (entM W M).length = M.length := List.length_map ..
  have hi : M.idxOf k < M.length := List.idxOf_lt_length_of_mem hm
  simp only [aentryStore, hg]
  rw [if_pos ⟨by omega, by rw [hlen]; omega, rfl⟩, Int.toNat_natCast]
  have hent : (entM W M)[M.idxOf k]? = some (Kv k, VI (W k)) := by
    rw [List.getElem?_map, List.getElem?_eq_getElem hi, List.getElem_idxOf]; rfl
  simp only [hent]
  have : (entM W M).set (M.idxOf k) (Kv k, VI x) = entM (setW W k x) M := by
    apply List.ext_getElem (by simp)
    intro j h1 h2
    have hj : j < M.length := by simpa using h1
    rw [List.getElem_set]
    by_cases e : M.idxOf k = j
    · subst e
      rw [if_pos rfl]
      simp only [entM, List.getElem_map, List.getElem_idxOf, setW, if_pos]
    · rw [if_neg e]
      have hne : M[j] ≠ k := fun h => e (by rw [← h]; exact hnd.idxOf_getElem j hj)
      simp only [entM, List.getElem_map, setW, if_neg hne]
  rw [this]
theorem setW_twice {W : Int × Int → Int} {k : Int × Int} {x y : Int} : setW (setW W k x) k y = setW W k y := by
  funext p; unfold setW; split <;> simp_all
/-- How often guests met combinations. -/
def Meet (H : Heap) (r : Nat) (f : Int → Int → Int) : Prop := ∃ W M, H.get r = some (.map (entM W M)) ∧ M.Nodup ∧ ∀ g c, cntM W M (g, c) = f g c
theorem buK {a b : Int} : abuild Try.prog 171 [(0, VI a), (1, VI b)] = some (Kv (a, b)) := by kernel_rfl
set_option maxHeartbeats 16000000 in
set_option maxRecDepth 100000 in
theorem again_spec [Orc] {B r : Nat} {H : Heap} {v : Value} {gl : List Int} {c : Int} {f : Int → Int → Int} (hB : B ≤ H.n) (hr : r < H.n) (hm : Meet H r f) (hg : Ints H v gl) (hn : gl.length < 1000000) :
    CallB Try.prog B 106 [.map (some r), v, VI c] H (fun q H' => Own 3 H' q ((gl.filter fun g => decide (0 < f g c)).map VI) H.n ∧ Keep H H') := by
  obtain ⟨W, M, hM, _, hf⟩ := hm
  refine CV.enter callees false (Orc.hv rfl rfl) Try.func106 rfl (by kernel_rfl) (Nat.le_of_ble_eq_true rfl) hB ?_ (Orc.hw rfl rfl)
  repeat' first
    | refine CO.cons rfl ?_
    | refine CO.nil ?_
    | refine CV.seq ?_
    | refine CV.region callees ?_
    | refine CV.block ?_
    | refine ⟨_, ints_len (by assumption), ?_⟩
    | fail
  refine CV.loopc ?_
  refine WCv.rounds callees false (α := Nat × Value) (fun (i, q) => [(0, .map (some r)), (2, VI c), (7, q), (10, v), (11, VI gl.length), (12, VI i)]) (fun (i, q) Hz => i ≤ gl.length ∧ Own 3 Hz q (((gl.take i).filter fun g => decide (0 < f g c)).map VI) H.n ∧ Keep H Hz) (fun (i, q) => gl.length - i) (0, nilS) (by repeat' first | exact trivial | refine ⟨rfl, ?_⟩ | refine ⟨slot_int (by (try simp only [Int.toNat_natCast]); omega), ?_⟩) ?_ ?_
  · exact ⟨by omega, .inl ⟨rfl, by simp⟩, Keep.refl _⟩
  rintro ⟨i, q⟩ Hx ⟨hi, hq, kx⟩ hBx
  have hgx : Ints Hx v gl := Row.keep hg kx
  have lx := kx.1
  have hMx := (kx.2 r hr).trans hM
  by_cases hi2 : i < gl.length
  · have hsn : (gl.take (i + 1)).filter (fun g => decide (0 < f g c)) = (gl.take i).filter (fun g => decide (0 < f g c)) ++ (if 0 < f gl[i]! c then [gl[i]!] else []) := by
      rw [tk_at hi2, List.filter_append]
      congr 1
      by_cases h : 0 < f gl[i]! c
      · rw [if_pos h, List.filter_cons_of_pos (by rw [decide_eq_true_eq]; exact h), List.filter_nil]
      · rw [if_neg h, List.filter_cons_of_neg (by rw [decide_eq_true_eq]; exact h), List.filter_nil]
    have hfl : ((gl.take i).filter fun g => decide (0 < f g c)).length ≤ i := Nat.le_trans (List.length_filter_le _ _) (by rw [List.length_take]; omega)
    have hlk : alookup Try.prog Hx 149 (.map (some r)) (Kv (gl[(i : Int).toNat]!, c)) false = some (VI (f gl[i]! c)) := by
      rw [lookM hMx]; exact congrArg _ (congrArg _ (hf gl[i]! c))
    by_cases hp : 0 < f gl[i]! c
    · rw [if_pos hp] at hsn
      repeat' first
        | refine CO.cons rfl ?_
        | refine CO.nil ?_
        | refine CV.seq ?_
        | refine CV.region callees ?_
        | refine CV.cond ?_
        | refine CV.block ?_
        | refine CV.skip ?_
        | refine ⟨_, ints_addr (by assumption) (by omega) (by omega), ?_⟩
        | refine ⟨_, ints_load (by assumption) (by omega) (by omega), ?_⟩
        | (refine ⟨_, buK, ?_⟩)
        | (refine ⟨_, hlk, ?_⟩)
        | (refine ⟨_, _, build_one un22 one3 rfl, ?_⟩)
        | (refine ⟨fun _ => ?_, fun _ => ?_⟩ <;> first | (exfalso; omega) | skip)
        | fail
      refine push_ask hq (by omega) hB (by omega) ?_
      intro q6 H6 hq6 kb6 hf6
      have hqb : ∀ c, blkOf q = some c → H.n ≤ c := fun c hc => (hq.lt hc).1
      repeat' first
        | refine CO.cons rfl ?_
        | refine CO.nil ?_
        | refine CV.region callees ?_
        | refine ⟨(⟨by omega, by omega⟩ : inI64 _), ?_⟩
        | fail
      refine ⟨(i + 1, q6), (by repeat' first | exact trivial | refine ⟨rfl, ?_⟩ | refine ⟨slot_int (by (try simp only [Int.toNat_natCast]); omega), ?_⟩), (by (try dsimp only); omega), ?_⟩
      exact ⟨by omega, by rw [hsn]; exact hq6, kb6.keep kx hqb⟩
    · rw [if_neg hp, List.append_nil] at hsn
      repeat' first
        | refine CO.cons rfl ?_
        | refine CO.nil ?_
        | refine CV.seq ?_
        | refine CV.region callees ?_
        | refine CV.cond ?_
        | refine CV.block ?_
        | refine CV.skip ?_
        | refine ⟨_, ints_addr (by assumption) (by omega) (by omega), ?_⟩
        | refine ⟨_, ints_load (by assumption) (by omega) (by omega), ?_⟩
        | refine ⟨(⟨by omega, by omega⟩ : inI64 _), ?_⟩
        | (refine ⟨_, buK, ?_⟩)
        | (refine ⟨_, hlk, ?_⟩)
        | (refine ⟨fun _ => ?_, fun _ => ?_⟩ <;> first | (exfalso; omega) | skip)
        | fail
      refine ⟨(i + 1, q), (by repeat' first | exact trivial | refine ⟨rfl, ?_⟩ | refine ⟨slot_int (by (try simp only [Int.toNat_natCast]); omega), ?_⟩), (by (try dsimp only); omega), ?_⟩
      exact ⟨by omega, by rw [hsn]; exact hq, kx⟩
  obtain rfl : i = gl.length := by omega
  rw [List.take_length] at hq
  repeat' first
    | refine CO.cons rfl ?_
    | refine CO.nil ?_
    | refine CV.seq ?_
    | refine CV.region callees ?_
    | refine CV.cond ?_
    | refine CV.exit ?_
    | refine CV.ret ?_
    | (refine ⟨fun _ => ?_, fun _ => ?_⟩ <;> first | (exfalso; omega) | skip)
    | fail
  exact ⟨by simp only [List.all_cons, List.all_nil, hq.notTuple]; rfl, hq, kx⟩
/-- What is added, for the first of the guests. -/
def addF (f : Int → Int → Int) (gl : List Int) (c t : Int) : Int → Int → Int := fun g d => f g d + if d = c ∧ g ∈ gl then t else 0
set_option maxHeartbeats 16000000 in
set_option maxRecDepth 100000 in
theorem add_spec [Orc] {B r : Nat} {H : Heap} {v : Value} {gl : List Int} {c t : Int} {f : Int → Int → Int} (hB : B ≤ r) (hr : r < H.n) (hm : Meet H r f) (hg : Ints H v gl) (hn : gl.length < 1000000) (hnd : gl.Nodup)
    (hfb : ∀ g d, -1000000 ≤ f g d ∧ f g d ≤ 1000000) (ht : -1 ≤ t ∧ t ≤ 1) :
    CallB Try.prog B 108 [.map (some r), v, VI c, VI t] H (fun _ H' => Meet H' r (addF f gl c t) ∧ KeepX r H H') := by
  have hBn : B ≤ H.n := by omega
  obtain ⟨W0, M0, hM0, hd0, hf0⟩ := hm
  refine CV.enter callees false (Orc.hv rfl rfl) Try.func108 rfl (by kernel_rfl) (Nat.le_of_ble_eq_true rfl) hBn ?_ (Orc.hw rfl rfl)
  repeat' first
    | refine CO.cons rfl ?_
    | refine CO.nil ?_
    | refine CV.seq ?_
    | refine CV.region callees ?_
    | refine CV.block ?_
    | refine ⟨_, ints_len (by assumption), ?_⟩
    | fail
  refine CV.loopc ?_
  refine WCv.rounds callees false (α := Nat × (Int × Int → Int) × List (Int × Int)) (fun (i, W, M) => [(0, .map (some r)), (2, VI c), (3, VI t), (10, v), (11, VI gl.length), (12, VI i)]) (fun (i, W, M) Hz => i ≤ gl.length ∧ Hz.get r = some (.map (entM W M)) ∧ M.Nodup ∧ (∀ g d, cntM W M (g, d) = addF f (gl.take i) c t g d) ∧ KeepX r H Hz ∧ r < Hz.n) (fun (i, W, M) => gl.length - i) (0, W0, M0) (by repeat' first | exact trivial | refine ⟨rfl, ?_⟩ | refine ⟨slot_int (by (try simp only [Int.toNat_natCast]); omega), ?_⟩) ?_ ?_
  · exact ⟨by omega, hM0, hd0, fun g d => by rw [hf0]; simp [addF], KeepX.refl _ _, hr⟩
  rintro ⟨i, W, M⟩ Hx ⟨hi, hM, hd, hf, kx, lx⟩ hBx
  have hgx : Ints Hx v gl := Row.keepM hg kx hM0
  by_cases hi2 : i < gl.length
  · have hnot : gl[i]! ∉ gl.take i := by
      rw [getElem!_pos gl i hi2]
      intro h
      obtain ⟨j, hj, he⟩ := List.mem_take_iff_getElem.1 h
      exact List.pairwise_iff_getElem.1 hnd j i (by omega) hi2 (by omega) he
    have hfi : cntM W M (gl[i]!, c) = f gl[i]! c := by rw [hf, addF, if_neg (fun h => hnot h.2), Int.add_zero]
    have hb := hfb gl[i]! c
    have hlk : alookup Try.prog Hx 149 (.map (some r)) (Kv (gl[(i : Int).toNat]!, c)) false = some (VI (f gl[i]! c)) := by
      rw [lookM hM]; exact congrArg _ (congrArg _ hfi)
    have hen := entryM (k := (gl[i]!, c)) hM
    rw [hfi] at hen
    repeat' first
      | refine CO.cons rfl ?_
      | refine CO.nil ?_
      | refine CV.seq ?_
      | refine CV.region callees ?_
      | refine CV.cond ?_
      | refine CV.block ?_
      | refine CV.skip ?_
      | refine CR.cons ?_
      | refine ⟨_, ints_addr (by assumption) (by omega) (by omega), ?_⟩
      | refine ⟨_, ints_load (by assumption) (by omega) (by omega), ?_⟩
      | refine ⟨(⟨by omega, by omega⟩ : inI64 _), ?_⟩
      | refine CV.wideR callees (by decide +kernel) [(0, []), (1, []), (2, []), (3, []), (4, []), (5, []), (6, []), (7, [6, 4]), (8, []), (9, [])] (by kernel_rfl) ?_
      | (refine ⟨_, buK, ?_⟩)
      | (refine ⟨_, hlk, ?_⟩)
      | (refine ⟨fun _ => ?_, fun _ => ?_⟩ <;> first | (exfalso; omega) | skip)
      | fail
    refine ⟨_, _, _, hen, by omega, hBx, ?_⟩
    generalize hs5 : Heap.set Hx r _ = H5
    have hg5 := set_get hs5
    have n5 := set_n hs5
    have o5 := set_old hs5
    have hst := storeM (x := f gl[i]! c + t) hg5 putM_mem (putM_nodup hd)
    rw [setW_twice] at hst
    have hlk5 : alookup Try.prog H5 149 (.map (some r)) (Kv (gl[(i : Int).toNat]!, c)) false = some (VI (f gl[i]! c)) := by
      rw [lookM hg5]; exact congrArg _ (congrArg _ (cntM_put.trans (if_pos rfl)))
    repeat' first
      | refine CR.cons ?_
      | refine ⟨(⟨by omega, by omega⟩ : inI64 _), ?_⟩
      | (refine ⟨(rfl : _ = Value.int _ _), ?_⟩)
      | (refine ⟨same_int, ?_⟩)
      | (refine ⟨_, hlk5, ?_⟩)
      | fail
    refine ⟨_, _, hst, by omega, by show B ≤ H5.n; omega, ?_⟩
    generalize hs6 : Heap.set H5 r _ = H6
    have hg6 := set_get hs6
    have n6 := set_n hs6
    have o6 := set_old hs6
    repeat' first
      | refine CO.cons rfl ?_
      | refine CO.nil ?_
      | refine CV.region callees ?_
      | refine CR.nil ?_
      | refine ⟨(⟨by omega, by omega⟩ : inI64 _), ?_⟩
      | fail
    refine ⟨(i + 1, setW W (gl[i]!, c) (f gl[i]! c + t), putM M (gl[i]!, c)), (by repeat' first | exact trivial | refine ⟨rfl, ?_⟩ | refine ⟨slot_int (by (try simp only [Int.toNat_natCast]); omega), ?_⟩), (by (try dsimp only); omega), ?_⟩
    refine ⟨by omega, hg6, putM_nodup hd, fun g d => ?_, kx.trans ⟨by omega, fun p _ hp => (o6 p hp).trans (o5 p hp)⟩, by omega⟩
    rw [cntM_put]
    by_cases e : (g, d) = (gl[i]!, c)
    · rw [if_pos e]
      cases e
      rw [addF, if_pos ⟨rfl, by rw [tk_at hi2]; simp⟩]
    · rw [if_neg e, hf, addF, addF]
      congr 1
      by_cases h1 : d = c
      · have h2 : g ≠ gl[i]! := fun h => e (by rw [h, h1])
        by_cases h3 : g ∈ gl.take i
        · rw [if_pos ⟨h1, h3⟩, if_pos ⟨h1, by rw [tk_at hi2]; exact List.mem_append_left _ h3⟩]
        · rw [if_neg (fun h => h3 h.2), if_neg (fun h => by
            rw [tk_at hi2, List.mem_append, List.mem_singleton] at h
            exact h.2.elim h3 h2)]
      · rw [if_neg (fun h => h1 h.1), if_neg (fun h => h1 h.1)]
  obtain rfl : i = gl.length := by omega
  rw [List.take_length] at hf
  repeat' first
    | refine CO.cons rfl ?_
    | refine CO.nil ?_
    | refine CV.seq ?_
    | refine CV.region callees ?_
    | refine CV.cond ?_
    | refine CV.exit ?_
    | (refine ⟨fun _ => ?_, fun _ => ?_⟩ <;> first | (exfalso; omega) | skip)
    | fail
  exact ⟨rfl, ⟨W, M, hM, hd, hf⟩, kx⟩
end Go.Proofs.Ytijimplcjaeneaa



/- Repeats of a plan. -/
namespace Go.Proofs.Ytijimplcjaeneaa
open Go.AI
/-- How often a guest met a combination, at the first gatherings. -/
def cntF (gs : List (List Int)) (plan : List Int) : Nat → Int → Int → Int
  | 0 => fun _ _ => 0
  | i + 1 => addF (cntF gs plan i) gs[i]! plan[i]! 1
theorem cntF_bd {gs : List (List Int)} {plan : List Int} : ∀ {i : Nat} {g c : Int}, 0 ≤ cntF gs plan i g c ∧ cntF gs plan i g c ≤ i
  | 0, _, _ => ⟨Int.le_refl _, Int.le_refl _⟩
  | i + 1, g, c => by
    have := cntF_bd (gs := gs) (plan := plan) (i := i) (g := g) (c := c)
    simp only [cntF, addF]
    split <;> omega
theorem cntF_pos {gs : List (List Int)} {plan : List Int} {i : Nat} {g c : Int} : 0 < cntF gs plan (i + 1) g c ↔ 0 < cntF gs plan i g c ∨ (c = plan[i]! ∧ g ∈ gs[i]!) := by
  have := cntF_bd (gs := gs) (plan := plan) (i := i) (g := g) (c := c)
  simp only [cntF, addF]
  by_cases h : c = plan[i]! ∧ g ∈ gs[i]!
  · rw [if_pos h]; constructor
    · intro _; exact .inr h
    · intro _; omega
  · rw [if_neg h, Int.add_zero]; constructor
    · exact .inl
    · rintro (h' | h')
      · exact h'
      · exact absurd h' h
/-- The guests of a gathering who meet its combination again. -/
def againL (gs : List (List Int)) (plan : List Int) (i : Nat) : List Int := gs[i]!.filter fun g => decide (0 < cntF gs plan i g plan[i]!)
def minL : List Int → Int
  | [] => -1
  | x :: t => t.foldl min x
theorem minL_snoc {l : List Int} {y : Int} (h : l ≠ []) : minL (l ++ [y]) = min (minL l) y := by
  cases l with
  | nil => exact absurd rfl h
  | cons x t => simp [minL, List.foldl_append]
/-- The first repeat, and how many there are: at the first gatherings. -/
def repS (gs : List (List Int)) (plan : List Int) : Nat → Int × Int × Int
  | 0 => (-1, -1, 0)
  | i + 1 => (if (repS gs plan i).2.2 = 0 ∧ 0 < (againL gs plan i).length then (i : Int) else (repS gs plan i).1,
      if (repS gs plan i).2.2 = 0 ∧ 0 < (againL gs plan i).length then minL (againL gs plan i) else (repS gs plan i).2.1,
      (repS gs plan i).2.2 + (againL gs plan i).length)
theorem repS_bd {gs : List (List Int)} {plan : List Int} (h : ∀ i, i < gs.length → gs[i]!.length < 1000000) : ∀ {i : Nat}, i ≤ gs.length → 0 ≤ (repS gs plan i).2.2 ∧ (repS gs plan i).2.2 ≤ i * 1000000
  | 0, _ => by simp [repS]
  | i + 1, hi => by
    have h1 := repS_bd (plan := plan) h (i := i) (by omega)
    have h2 := h i (by omega)
    have h3 : (againL gs plan i).length ≤ gs[i]!.length := List.length_filter_le _ _
    simp only [repS]
    omega
def plE (m : Int) : List Int → Int
  | [] => 0
  | p :: t => bif inB p 0 m then plE m t else 7
def planE (st : List Int) (gs : List (List Int)) (plan : List Int) : Int := if seaE st gs = 0 then (if gs.length < plan.length then 8 else plE (combos st - 1) plan) else seaE st gs
theorem planE_ok {st : List Int} {gs : List (List Int)} {plan : List Int} (h : planE st gs plan = 0) : seaE st gs = 0 ∧ plan.length ≤ gs.length := by
  unfold planE at h
  by_cases h1 : seaE st gs = 0
  · rw [if_pos h1] at h
    by_cases h2 : gs.length < plan.length
    · rw [if_pos h2] at h; cases h
    · exact ⟨h1, by omega⟩
  · rw [if_neg h1] at h; exact absurd h h1
theorem guE_ok : ∀ {l pre : List Int}, guE pre l = 0 → pre.Nodup → (pre ++ l).Nodup ∧ ∀ x ∈ l, 0 ≤ x ∧ x ≤ 11
  | [], pre, _, hp => ⟨by rw [List.append_nil]; exact hp, fun _ h => by cases h⟩
  | g :: t, pre, h, hp => by
    simp only [guE] at h
    cases c : inB g 0 11 with
    | false => rw [c, cond_false] at h; cases h
    | true =>
      rw [c, cond_true] at h
      by_cases hm : g ∈ pre
      · rw [if_pos hm] at h; cases h
      · rw [if_neg hm] at h
        have hnd : (pre ++ [g]).Nodup := List.nodup_append.2 ⟨hp, by simp, fun a ha b hb => by
          rw [List.mem_singleton] at hb
          subst hb
          rintro rfl
          exact hm ha⟩
        obtain ⟨h1, h2⟩ := guE_ok h hnd
        rw [List.append_assoc] at h1
        simp only [inB, Bool.and_eq_true, decide_eq_true_eq] at c
        refine ⟨h1, fun x hx => ?_⟩
        rcases List.mem_cons.1 hx with rfl | hx
        · exact c
        · exact h2 x hx
theorem gsE_mem : ∀ {gs : List (List Int)}, gsE gs = 0 → ∀ l ∈ gs, guestsE l = 0
  | g :: t, h, l, hl => by
    simp only [gsE] at h
    by_cases c : guestsE g = 0
    · rw [if_pos c] at h
      rcases List.mem_cons.1 hl with rfl | hl
      · exact c
      · exact gsE_mem h l hl
    · rw [if_neg c] at h; exact absurd h c
structure GsOk (gs : List (List Int)) : Prop where
  n : gs.length ≤ 9
  p : ∀ i, i < gs.length → 0 < gs[i]!.length
  nd : ∀ i, i < gs.length → gs[i]!.Nodup
  r : ∀ i, i < gs.length → ∀ x ∈ gs[i]!, 0 ≤ x ∧ x ≤ 11
theorem gsOk_of {st : List Int} {gs : List (List Int)} (h : seaE st gs = 0) : GsOk gs := by
  obtain ⟨_, h1, h2⟩ := seaE_ok h
  have key : ∀ i, i < gs.length → ¬ gs[i]!.length = 0 ∧ guE [] gs[i]! = 0 := fun i hi => by
    have := gsE_mem h2 gs[i]! (by rw [getElem!_pos gs i hi]; exact List.getElem_mem _)
    unfold guestsE at this
    by_cases h0 : gs[i]!.length = 0
    · rw [if_pos h0] at this; cases this
    · rw [if_neg h0] at this; exact ⟨h0, this⟩
  exact ⟨h1, fun i hi => by have := (key i hi).1; omega, fun i hi => (guE_ok (key i hi).2 (by simp)).1, fun i hi => (guE_ok (key i hi).2 (by simp)).2⟩
set_option maxRecDepth 100000 in
theorem checkPlan_spec [Orc] {B : Nat} {H : Heap} {s g v : Value} {gv : List Value} {st plan : List Int} {gs : List (List Int)} (hB : B ≤ H.n) (hs : Ints H s st) (hg : Gri H g gv gs) (hv : Ints H v plan) (hsn : st.length < 1000000) (hgn : gs.length < 1000000) (hgg : ∀ x ∈ gs, x.length < 1000000) (hpn : plan.length < 1000000) :
    CallB Try.prog B 105 [Sev s g, v] H (fun r H' => r = VI (planE st gs plan) ∧ Keep H H') := by
  refine CV.enter callees false (Orc.hv rfl rfl) Try.func105 rfl (by kernel_rfl) (Nat.le_of_ble_eq_true rfl) hB ?_ (Orc.hw rfl rfl)
  repeat' first
    | refine CO.cons rfl ?_
    | refine CV.seq ?_
    | refine CV.region callees ?_
    | fail
  refine ⟨(by simp only [notTuple]), ?_⟩
  rw [boxSe]
  generalize hs0 : Heap.new H _ = H0
  have hg0 := new_get hs0
  have k0 := new_keep hs0
  have n0 := new_n hs0
  obtain ⟨b0, hbn0⟩ : ∃ b, Heap.n H = b := ⟨_, rfl⟩
  rw [hbn0] at hg0 n0 ⊢
  have hs0 : Ints H0 s st := hs.keep k0
  have hgr0 := hg.keep k0
  repeat' first
    | refine CO.cons rfl ?_
    | refine CO.nil ?_
    | refine CV.seq ?_
    | refine CV.region callees ?_
    | (refine ⟨_, ldSe hg0, ?_⟩)
    | fail
  refine (checkSeason_spec (by omega) hs0 hgr0 hsn hgn hgg).mono ?_
  rintro r H1 ⟨rfl, k1⟩
  have l1 := k1.1
  have k01 := k0.trans k1
  by_cases he : seaE st gs = 0
  rotate_left
  · have e : planE st gs plan = seaE st gs := by unfold planE; rw [if_neg he]
    repeat' first
      | refine CO.cons rfl ?_
      | refine CO.nil ?_
      | refine CV.seq ?_
      | refine CV.region callees ?_
      | refine CV.cond ?_
      | refine CV.ret ?_
      | (refine ⟨fun _ => ?_, fun _ => ?_⟩ <;> first | (exfalso; omega) | skip)
      | fail
    exact ⟨rfl, by rw [e], k01⟩
  obtain ⟨hok, h9, _⟩ := seaE_ok he
  have hc := hok.all
  have hS1 := (k1.2 b0 (by omega)).trans hg0
  have hgr1 := hg.keep k01
  have hv1 : Ints H1 v plan := hv.keep k01
  by_cases hlen : gs.length < plan.length
  · have e : planE st gs plan = 8 := by unfold planE; rw [if_pos he, if_pos hlen]
    repeat' first
      | refine CO.cons rfl ?_
      | refine CO.nil ?_
      | refine CV.seq ?_
      | refine CV.region callees ?_
      | refine CV.cond ?_
      | refine CV.skip ?_
      | refine CV.ret ?_
      | refine ⟨_, ints_len (by assumption), ?_⟩
      | (refine ⟨_, fS fe1 (by decide), ?_⟩)
      | (refine ⟨_, cell_load agGr hS1 rfl, ?_⟩)
      | (refine ⟨_, hgr1.alen, ?_⟩)
      | (refine ⟨fun _ => ?_, fun _ => ?_⟩ <;> first | (exfalso; omega) | skip)
      | fail
    exact ⟨rfl, by rw [e], k01⟩
  have e : planE st gs plan = plE (combos st - 1) plan := by unfold planE; rw [if_pos he, if_neg hlen]
  repeat' first
    | refine CO.cons rfl ?_
    | refine CO.nil ?_
    | refine CV.seq ?_
    | refine CV.region callees ?_
    | refine CV.cond ?_
    | refine CV.block ?_
    | refine CV.skip ?_
    | refine ⟨_, ints_len (by assumption), ?_⟩
    | (refine ⟨_, fS fe1 (by decide), ?_⟩)
    | (refine ⟨_, cell_load agGr hS1 rfl, ?_⟩)
    | (refine ⟨_, hgr1.alen, ?_⟩)
    | (refine ⟨fun _ => ?_, fun _ => ?_⟩ <;> first | (exfalso; omega) | skip)
    | fail
  refine CV.loopc ?_
  refine WCv.rounds callees false (α := Nat) (fun i => [(2, .pointer (some ⟨b0, 0, none⟩)), (19, v), (20, VI plan.length), (21, VI i)]) (fun i Hz => i ≤ plan.length ∧ plE (combos st - 1) (plan.drop i) = planE st gs plan ∧ Keep H1 Hz) (fun i => plan.length - i) (0) (by repeat' first | exact trivial | refine ⟨rfl, ?_⟩ | refine ⟨slot_int (by (try simp only [Int.toNat_natCast]); omega), ?_⟩) ?_ ?_
  · exact ⟨by omega, e.symm, Keep.refl _⟩
  rintro i Hx ⟨hi, hw, kx⟩ hBx
  have lx := kx.1
  have hvx : Ints Hx v plan := hv1.keep kx
  by_cases hi2 : i < plan.length
  · rw [dr_at hi2] at hw
    simp only [plE] at hw
    have hSx := (kx.2 b0 (by omega)).trans hS1
    have hsx : Ints Hx s st := hs.keep (k01.trans kx)
    repeat' first
      | refine CO.cons rfl ?_
      | refine CO.nil ?_
      | refine CV.seq ?_
      | refine CV.region callees ?_
      | refine CV.cond ?_
      | refine CV.block ?_
      | refine CV.skip ?_
      | refine ⟨_, ints_addr (by assumption) (by omega) (by omega), ?_⟩
      | refine ⟨_, ints_load (by assumption) (by omega) (by omega), ?_⟩
      | (refine ⟨_, ldSe hSx, ?_⟩)
      | (refine ⟨fun _ => ?_, fun _ => ?_⟩ <;> first | (exfalso; omega) | skip)
      | fail
    refine (isCombo_spec (n := plan[i]!) (by omega) hsx hok).mono ?_
    cases c1 : inB plan[i]! 0 (combos st - 1)
    · rintro r H2 ⟨rfl, k2⟩
      rw [c1, cond_false] at hw
      repeat' first
        | refine CO.cons rfl ?_
        | refine CO.nil ?_
        | refine CV.seq ?_
        | refine CV.region callees ?_
        | refine CV.cond ?_
        | refine CV.ret ?_
        | fail
      exact ⟨rfl, by rw [← hw], (k01.trans kx).trans k2⟩
    rintro r H2 ⟨rfl, k2⟩
    rw [c1, cond_true] at hw
    repeat' first
      | refine CO.cons rfl ?_
      | refine CO.nil ?_
      | refine CV.region callees ?_
      | refine CV.cond ?_
      | refine CV.skip ?_
      | refine ⟨(⟨by omega, by omega⟩ : inI64 _), ?_⟩
      | fail
    refine ⟨(i + 1), (by repeat' first | exact trivial | refine ⟨rfl, ?_⟩ | refine ⟨slot_int (by (try simp only [Int.toNat_natCast]); omega), ?_⟩), (by (try dsimp only); omega), ?_⟩
    exact ⟨by omega, hw, kx.trans k2⟩
  obtain rfl : i = plan.length := by omega
  rw [List.drop_length] at hw
  repeat' first
    | refine CO.cons rfl ?_
    | refine CO.nil ?_
    | refine CV.seq ?_
    | refine CV.region callees ?_
    | refine CV.cond ?_
    | refine CV.exit ?_
    | refine CV.ret ?_
    | (refine ⟨fun _ => ?_, fun _ => ?_⟩ <;> first | (exfalso; omega) | skip)
    | fail
  exact ⟨rfl, by rw [← hw]; rfl, k01.trans kx⟩
set_option maxRecDepth 100000 in
theorem min_spec [Orc] {B : Nat} {H : Heap} {v : Value} {l : List Int} (hB : B ≤ H.n) (hv : Ints H v l) (h0 : 0 < l.length) (hn : l.length < 1000000) :
    CallB Try.prog B 107 [v] H (fun r H' => r = VI (minL l) ∧ H' = H) := by
  refine CV.enter callees false (Orc.hv rfl rfl) Try.func107 rfl (by kernel_rfl) (Nat.le_of_ble_eq_true rfl) hB ?_ (Orc.hw rfl rfl)
  have h1 : minL (l.take 1) = l[0]! := by
    cases l with
    | nil => cases h0
    | cons x t => rfl
  have h1' : minL (l.take 1) = l[(0 : Int).toNat]! := h1
  repeat' first
    | refine CO.cons rfl ?_
    | refine CO.nil ?_
    | refine CV.seq ?_
    | refine CV.region callees ?_
    | refine CV.cond ?_
    | refine CV.block ?_
    | refine CV.skip ?_
    | refine ⟨_, ints_len (by assumption), ?_⟩
    | refine ⟨_, ints_addr (by assumption) (by omega) (by omega), ?_⟩
    | refine ⟨_, ints_load (by assumption) (by omega) (by omega), ?_⟩
    | (refine ⟨fun _ => ?_, fun _ => ?_⟩ <;> first | (exfalso; omega) | skip)
    | fail
  refine CV.loopc ?_
  refine WCv.rounds callees false (α := Nat) (fun i => [(0, v), (3, VI (minL (l.take i))), (4, VI i)]) (fun i Hz => 1 ≤ i ∧ i ≤ l.length ∧ Hz = H) (fun i => l.length - i) (1) (by repeat' first | exact trivial | refine ⟨rfl, ?_⟩ | refine ⟨slot_int (by (try simp only [Int.toNat_natCast]); omega), ?_⟩) ?_ ?_
  · exact ⟨by omega, by omega, rfl⟩
  rintro i Hx ⟨hi1, hi, rfl⟩ hBx
  by_cases hi2 : i < l.length
  · have hm : minL (l.take (i + 1)) = min (minL (l.take i)) l[i]! := by
      rw [tk_at hi2]
      exact minL_snoc (fun h => by have := congrArg List.length h; rw [List.length_take, List.length_nil] at this; omega)
    have hm' : minL (l.take (i + 1)) = min (minL (l.take i)) l[(i : Int).toNat]! := hm
    repeat' first
      | refine CO.cons rfl ?_
      | refine CO.nil ?_
      | refine CV.seq ?_
      | refine CV.region callees ?_
      | refine CV.cond ?_
      | refine CV.block ?_
      | refine CV.skip ?_
      | refine ⟨_, ints_len (by assumption), ?_⟩
      | refine ⟨_, ints_addr (by assumption) (by omega) (by omega), ?_⟩
      | refine ⟨_, ints_load (by assumption) (by omega) (by omega), ?_⟩
      | refine ⟨(⟨by omega, by omega⟩ : inI64 _), ?_⟩
      | refine ⟨_, fun tm ha => step1_min rfl (ev_tmp ha rfl) (ev_tmp ha rfl), ?_⟩
      | (refine ⟨fun _ => ?_, fun _ => ?_⟩ <;> first | (exfalso; omega) | skip)
      | fail
    refine ⟨(i + 1), (by repeat' first | exact trivial | refine ⟨rfl, ?_⟩ | refine ⟨slot_int (by (try simp only [Int.toNat_natCast]); omega), ?_⟩), (by (try dsimp only); omega), ?_⟩
    exact ⟨by omega, by omega, rfl⟩
  obtain rfl : i = l.length := by omega
  rw [List.take_length]
  repeat' first
    | refine CO.cons rfl ?_
    | refine CO.nil ?_
    | refine CV.seq ?_
    | refine CV.region callees ?_
    | refine CV.cond ?_
    | refine CV.exit ?_
    | refine CV.ret ?_
    | refine ⟨_, ints_len (by assumption), ?_⟩
    | (refine ⟨fun _ => ?_, fun _ => ?_⟩ <;> first | (exfalso; omega) | skip)
    | fail
  exact ⟨rfl, rfl, rfl⟩
/-- What Repeats answers. -/
def repV (st : List Int) (gs : List (List Int)) (plan : List Int) : Value :=
  if planE st gs plan = 0 then .tuple #[VI (repS gs plan plan.length).1, VI (repS gs plan plan.length).2.1, VI (repS gs plan plan.length).2.2, VI 0] else .tuple #[VI 0, VI 0, VI 0, VI (planE st gs plan)]
set_option maxHeartbeats 16000000 in
set_option maxRecDepth 100000 in
theorem repeats_spec [Orc] {B : Nat} {H : Heap} {s g v : Value} {gv : List Value} {st plan : List Int} {gs : List (List Int)} (hB : B ≤ H.n) (hs : Ints H s st) (hg : Gri H g gv gs) (hv : Ints H v plan) (hsn : st.length < 1000000) (hgn : gs.length < 1000000) (hgg : ∀ x ∈ gs, x.length < 1000000) (hpn : plan.length < 1000000) :
    CallB Try.prog B 50 [Sev s g, v] H (fun r H' => r = repV st gs plan ∧ Keep H H') := by
  refine CV.enter callees false (Orc.hv rfl rfl) Try.func50 rfl (by kernel_rfl) (Nat.le_of_ble_eq_true rfl) hB ?_ (Orc.hw rfl rfl)
  repeat' first
    | refine CO.cons rfl ?_
    | refine CV.seq ?_
    | refine CV.region callees ?_
    | fail
  refine ⟨(by simp only [notTuple]), ?_⟩
  rw [boxSe]
  generalize hs0 : Heap.new H _ = H0
  have hg0 := new_get hs0
  have k0 := new_keep hs0
  have n0 := new_n hs0
  obtain ⟨b0, hbn0⟩ : ∃ b, Heap.n H = b := ⟨_, rfl⟩
  rw [hbn0] at hg0 n0 ⊢
  have hs0 : Ints H0 s st := hs.keep k0
  have hgr0 := hg.keep k0
  have hv0 : Ints H0 v plan := hv.keep k0
  repeat' first
    | refine CO.cons rfl ?_
    | refine CO.nil ?_
    | refine CV.seq ?_
    | refine CV.region callees ?_
    | (refine ⟨_, ldSe hg0, ?_⟩)
    | fail
  refine (checkPlan_spec (by omega) hs0 hgr0 hv0 hsn hgn hgg hpn).mono ?_
  rintro r H1 ⟨rfl, k1⟩
  have l1 := k1.1
  have k01 := k0.trans k1
  by_cases he : planE st gs plan = 0
  rotate_left
  · have e : repV st gs plan = .tuple #[VI 0, VI 0, VI 0, VI (planE st gs plan)] := by unfold repV; rw [if_neg he]
    repeat' first
      | refine CO.cons rfl ?_
      | refine CO.nil ?_
      | refine CV.seq ?_
      | refine CV.region callees ?_
      | refine CV.cond ?_
      | refine CV.ret ?_
      | (refine ⟨fun _ => ?_, fun _ => ?_⟩ <;> first | (exfalso; omega) | skip)
      | fail
    exact ⟨rfl, by rw [e], k01⟩
  obtain ⟨hse, hlen⟩ := planE_ok he
  have hgo := gsOk_of hse
  have hglen : ∀ i, i < gs.length → gs[i]!.length < 1000000 := fun i hi => hgg _ (by rw [getElem!_pos gs i hi]; exact List.getElem_mem _)
  have e : repV st gs plan = .tuple #[VI (repS gs plan plan.length).1, VI (repS gs plan plan.length).2.1, VI (repS gs plan plan.length).2.2, VI 0] := by unfold repV; rw [if_pos he]
  have hS1 := (k1.2 b0 (by omega)).trans hg0
  repeat' first
    | refine CO.cons rfl ?_
    | refine CO.nil ?_
    | refine CV.seq ?_
    | refine CV.region callees ?_
    | refine CV.cond ?_
    | refine CV.skip ?_
    | (refine ⟨fun _ => ?_, fun _ => ?_⟩ <;> first | (exfalso; omega) | skip)
    | fail
  generalize hs2 : Heap.new H1 (.map []) = H2
  have hg2 := new_get hs2
  have k2 := new_keep hs2
  have n2 := new_n hs2
  obtain ⟨r, hr2⟩ : ∃ r, H1.n = r := ⟨_, rfl⟩
  rw [hr2] at hg2 n2 ⊢
  have hM2 : Meet H2 r (cntF gs plan 0) := ⟨fun _ => 0, [], hg2, by simp, fun g c => by simp [cntM, cntF]⟩
  have hS2 := (k2.2 b0 (by omega)).trans hS1
  have k02 := k01.trans k2
  have l2 := k2.1
  have hgr2 := hg.keep k02
  have hv2 : Ints H2 v plan := hv.keep k02
  repeat' first
    | refine CO.cons rfl ?_
    | refine CO.nil ?_
    | refine CV.block ?_
    | refine ⟨_, ints_len (by assumption), ?_⟩
    | fail
  refine CV.loopc ?_
  refine WCv.rounds callees false (α := Nat) (fun i => [(2, .pointer (some ⟨b0, 0, none⟩)), (4, VI (repS gs plan i).1), (5, VI (repS gs plan i).2.1), (6, VI (repS gs plan i).2.2), (9, .map (some r)), (21, v), (22, VI plan.length), (23, VI i)]) (fun i Hz => i ≤ plan.length ∧ Meet Hz r (cntF gs plan i) ∧ KeepX r H2 Hz) (fun i => plan.length - i) (0) (by repeat' first | exact trivial | refine ⟨rfl, ?_⟩ | refine ⟨slot_int (by (try simp only [Int.toNat_natCast]); omega), ?_⟩) ?_ ?_
  · exact ⟨by omega, hM2, KeepX.refl _ _⟩
  rintro i Hx ⟨hi, hM, kx⟩ hBx
  have lx := kx.1
  have hvx : Ints Hx v plan := Row.keepM hv2 kx hg2
  by_cases hi2 : i < plan.length
  · have hgrx := hgr2.keepM kx hg2
    have hSx := (kx.2 b0 (by omega) (by omega)).trans hS2
    have hbd := repS_bd (plan := plan) hglen (i := i) (by omega)
    have hig : i < gs.length := by omega
    have h9 := hgo.n
    have had := hgrx.addr hig
    have hld := hgrx.load hig
    have hal : (againL gs plan i).length ≤ gs[i]!.length := List.length_filter_le _ _
    have hgl := hglen i hig
    repeat' first
      | refine CO.cons rfl ?_
      | refine CO.nil ?_
      | refine CV.seq ?_
      | refine CV.region callees ?_
      | refine CV.cond ?_
      | refine CV.block ?_
      | refine CV.skip ?_
      | refine ⟨_, ints_addr (by assumption) (by omega) (by omega), ?_⟩
      | refine ⟨_, ints_load (by assumption) (by omega) (by omega), ?_⟩
      | (refine ⟨_, fS fe1 (by decide), ?_⟩)
      | (refine ⟨_, cell_load agGr hSx rfl, ?_⟩)
      | (refine ⟨_, had, ?_⟩)
      | (refine ⟨_, hld, ?_⟩)
      | (refine ⟨fun _ => ?_, fun _ => ?_⟩ <;> first | (exfalso; omega) | skip)
      | fail
    refine (again_spec (c := plan[i]!) (by omega) (by omega) hM (hgrx.ints i hig) (hglen i hig)).mono ?_
    rintro q H3 ⟨hq, k3⟩
    have l3 := k3.1
    have hq' : Ints H3 q (againL gs plan i) := hq.row
    have hM3 : Meet H3 r (cntF gs plan i) := by
      obtain ⟨W, M, h1, h2⟩ := hM
      exact ⟨W, M, (k3.2 r (by omega)).trans h1, h2⟩
    have hg3 := (hgrx.keep k3).ints i hig
    by_cases hz : (repS gs plan i).2.2 = 0 ∧ 0 < (againL gs plan i).length
    · obtain ⟨hz1, hz2⟩ := hz
      repeat' first
        | refine CO.cons rfl ?_
        | refine CO.nil ?_
        | refine CV.seq ?_
        | refine CV.region callees ?_
        | refine CV.cond ?_
        | refine CO.consG rfl ?_
        | refine ⟨_, ints_len (by assumption), ?_⟩
        | (refine ⟨fun _ => ?_, fun _ => ?_⟩ <;> first | (exfalso; omega) | skip)
        | fail
      refine (min_spec (by omega) hq' hz2 (by omega)).mono ?_
      rintro r4 H4 ⟨rfl, rfl⟩
      repeat' first
        | refine CO.cons rfl ?_
        | refine CO.nil ?_
        | refine CV.seq ?_
        | refine CV.region callees ?_
        | refine ⟨_, ints_len (by assumption), ?_⟩
        | refine ⟨(⟨by omega, by omega⟩ : inI64 _), ?_⟩
        | fail
      refine (add_spec (c := plan[i]!) (t := 1) (by omega) (by omega) hM3 hg3 (hglen i hig) (hgo.nd i hig) (fun g d => by have := cntF_bd (gs := gs) (plan := plan) (i := i) (g := g) (c := d); omega) (by omega)).mono ?_
      rintro r5 H5 ⟨hM5, k5⟩
      have e1 : (repS gs plan (i + 1)).1 = (i : Int) := by simp only [repS]; rw [if_pos ⟨hz1, hz2⟩]
      have e2 : (repS gs plan (i + 1)).2.1 = minL (againL gs plan i) := by simp only [repS]; rw [if_pos ⟨hz1, hz2⟩]
      have e3 : (repS gs plan (i + 1)).2.2 = (repS gs plan i).2.2 + (againL gs plan i).length := rfl
      repeat' first
        | refine CO.cons rfl ?_
        | refine CO.nil ?_
        | refine CV.region callees ?_
        | refine ⟨(⟨by omega, by omega⟩ : inI64 _), ?_⟩
        | fail
      refine ⟨(i + 1), (by repeat' first | exact trivial | refine ⟨rfl, ?_⟩ | refine ⟨slot_int (by (try simp only [Int.toNat_natCast]); omega), ?_⟩), (by (try dsimp only); omega), ?_⟩
      exact ⟨by omega, hM5, (kx.trans ⟨k3.1, fun p hp _ => k3.2 p hp⟩).trans k5⟩
    · have e1 : (repS gs plan (i + 1)).1 = (repS gs plan i).1 := by simp only [repS]; rw [if_neg hz]
      have e2 : (repS gs plan (i + 1)).2.1 = (repS gs plan i).2.1 := by simp only [repS]; rw [if_neg hz]
      have e3 : (repS gs plan (i + 1)).2.2 = (repS gs plan i).2.2 + (againL gs plan i).length := rfl
      by_cases hz1 : (repS gs plan i).2.2 = 0
      · have hz2 : ¬ 0 < (againL gs plan i).length := fun h => hz ⟨hz1, h⟩
        repeat' first
          | refine CO.cons rfl ?_
          | refine CO.nil ?_
          | refine CV.seq ?_
          | refine CV.region callees ?_
          | refine CV.cond ?_
          | refine CV.skip ?_
          | refine CO.consG rfl ?_
          | refine ⟨_, ints_len (by assumption), ?_⟩
          | refine ⟨(⟨by omega, by omega⟩ : inI64 _), ?_⟩
          | (refine ⟨fun _ => ?_, fun _ => ?_⟩ <;> first | (exfalso; omega) | skip)
          | fail
        refine (add_spec (c := plan[i]!) (t := 1) (by omega) (by omega) hM3 hg3 (hglen i hig) (hgo.nd i hig) (fun g d => by have := cntF_bd (gs := gs) (plan := plan) (i := i) (g := g) (c := d); omega) (by omega)).mono ?_
        rintro r5 H5 ⟨hM5, k5⟩
        repeat' first
          | refine CO.cons rfl ?_
          | refine CO.nil ?_
          | refine CV.region callees ?_
          | refine ⟨(⟨by omega, by omega⟩ : inI64 _), ?_⟩
          | fail
        refine ⟨(i + 1), (by repeat' first | exact trivial | refine ⟨rfl, ?_⟩ | refine ⟨slot_int (by (try simp only [Int.toNat_natCast]); omega), ?_⟩), (by (try dsimp only); omega), ?_⟩
        exact ⟨by omega, hM5, (kx.trans ⟨k3.1, fun p hp _ => k3.2 p hp⟩).trans k5⟩
      · repeat' first
          | refine CO.cons rfl ?_
          | refine CO.nil ?_
          | refine CV.seq ?_
          | refine CV.region callees ?_
          | refine CV.cond ?_
          | refine CV.skip ?_
          | refine CO.consG rfl ?_
          | refine ⟨_, ints_len (by assumption), ?_⟩
          | refine ⟨(⟨by omega, by omega⟩ : inI64 _), ?_⟩
          | (refine ⟨fun _ => ?_, fun _ => ?_⟩ <;> first | (exfalso; omega) | skip)
          | fail
        refine (add_spec (c := plan[i]!) (t := 1) (by omega) (by omega) hM3 hg3 (hglen i hig) (hgo.nd i hig) (fun g d => by have := cntF_bd (gs := gs) (plan := plan) (i := i) (g := g) (c := d); omega) (by omega)).mono ?_
        rintro r5 H5 ⟨hM5, k5⟩
        repeat' first
          | refine CO.cons rfl ?_
          | refine CO.nil ?_
          | refine CV.region callees ?_
          | refine ⟨(⟨by omega, by omega⟩ : inI64 _), ?_⟩
          | fail
        refine ⟨(i + 1), (by repeat' first | exact trivial | refine ⟨rfl, ?_⟩ | refine ⟨slot_int (by (try simp only [Int.toNat_natCast]); omega), ?_⟩), (by (try dsimp only); omega), ?_⟩
        exact ⟨by omega, hM5, (kx.trans ⟨k3.1, fun p hp _ => k3.2 p hp⟩).trans k5⟩
  obtain rfl : i = plan.length := by omega
  repeat' first
    | refine CO.cons rfl ?_
    | refine CO.nil ?_
    | refine CV.seq ?_
    | refine CV.region callees ?_
    | refine CV.cond ?_
    | refine CV.exit ?_
    | refine CV.ret ?_
    | (refine ⟨fun _ => ?_, fun _ => ?_⟩ <;> first | (exfalso; omega) | skip)
    | fail
  have l01 := k01.1
  have l02 := k02.1
  exact ⟨rfl, e.symm, Nat.le_trans k02.1 lx, fun p hp => (kx.2 p (by omega) (by omega)).trans (k02.2 p hp)⟩
end Go.Proofs.Ytijimplcjaeneaa



/- Repeats of a plan, by the reference. -/
namespace Go.Proofs.Ytijimplcjaeneaa
open Go.AI
end Go.Proofs.Ytijimplcjaeneaa



/- Seasons made of numbers. -/
namespace Go.AI
section
variable {P : Program} {H : Heap} {t e : TypeId} {z : Value} {by' : Nat}
theorem append_nilW (ht : P.underlying t = some (.slice e)) (h1 : oneBB P e = some (z, by')) (hb : by' ≤ 1000) {b' : Nat} {news : List Value} {e' : TypeId} {k : Nat} (hy : H.get b' = some (.cells news e' k)) (hn0 : 0 < news.length) (hn : news.length ≤ 1000000) :
    aappend P H #[t, t] (.slice none 0 0) (.slice (some ⟨b', 0, none⟩) news.length 0) = some (.slice (some ⟨H.n, 0, none⟩) news.length 0, H.new (.cells news e 2), H.n) := by
  obtain ⟨info, hi, hz, hs, hc, hsc, hby⟩ := oneBB_spec h1
  have hmul : news.length * info.bytes ≤ 1000000 * 1000 := Nat.mul_le_mul hn (by omega)
  simp only [aappend, ht, hi, hz, hc, hs, sourceOf, hy]
  have hl : ¬ news.length = 0 := by omega
  rw [if_neg (by simp), if_neg (by simp), if_pos (by simp)]
  simp only [hl, if_false, Nat.mul_one, List.drop_zero, List.take_length, Nat.zero_add]
  rw [if_pos ⟨by show news.length ≤ 9223372036854775807; omega, by omega⟩]
  rfl
theorem append_rowW (ht : P.underlying t = some (.slice e)) (h1 : oneBB P e = some (z, by')) (hb : by' ≤ 1000) {b b' : Nat} {cs news : List Value} {e' : TypeId} {k : Nat} (hx : H.get b = some (.cells cs e 2)) (hy : H.get b' = some (.cells news e' k)) (hn0 : 0 < news.length) (hn : cs.length + news.length ≤ 1000000) :
    aappend P H #[t, t] (.slice (some ⟨b, 0, none⟩) cs.length 0) (.slice (some ⟨b', 0, none⟩) news.length 0) = some (.slice (some ⟨H.n, 0, none⟩) (cs.length + news.length) 0, (H.set b .gone).new (.cells (cs ++ news) e 2), b) := by
  obtain ⟨info, hi, hz, hs, hc, hsc, hby⟩ := oneBB_spec h1
  have hmul : (cs.length + news.length) * info.bytes ≤ 1000000 * 1000 := Nat.mul_le_mul hn (by omega)
  simp only [aappend, ht, hi, hz, hc, hs, sourceOf, hy, hx]
  have hl : ¬ news.length = 0 := by omega
  rw [if_neg (by simp), if_neg (by simp), if_pos (by simp)]
  simp only [hl, if_false, Nat.mul_one, List.drop_zero, List.take_length, Nat.zero_add]
  rw [if_neg (by simp), if_pos ⟨trivial, trivial, by show cs.length + news.length ≤ 9223372036854775807; omega, by omega⟩]
  rfl
theorem append_askW {K : Value → Heap → Prop} {B B0 : Nat} {x w : Value} {vs : List Value} (ht : P.underlying t = some (.slice e)) (h1 : oneBB P e = some (z, by')) (hb : by' ≤ 1000) (hx : Own e H x vs B0) (hB0 : B0 ≤ H.n) (hB : B ≤ B0) (hn : vs.length < 1000000)
    (hk : ∀ r H', Own e H' r (vs ++ [w]) B0 → KeepBut x H H' → (∀ c, blkOf r = some c → H.n ≤ c) → K r H') :
    ∃ v H' b, aappend P (H.new (.cells [w] e 2)) #[t, t] x (.slice (some ⟨H.n, 0, none⟩) 1 0) = some (v, H', b) ∧ B ≤ b ∧ K v H' := by
  have hy : (H.new (.cells [w] e 2)).get H.n = some (.cells [w] e 2) := Heap.get_new_eq _ _
  rcases hx with ⟨rfl, rfl⟩ | ⟨b, rfl, h2, h3, h4⟩
  · refine ⟨_, _, _, append_nilW ht h1 hb (news := [w]) hy (by simp) (by simp), ?_, hk _ _ (.inr ⟨_, rfl, ?_, ?_, Heap.get_new_eq _ _⟩) ⟨?_, ?_⟩ ?_⟩
    · show B ≤ H.n + 1; omega
    · show B0 ≤ H.n + 1; omega
    · show H.n + 1 < H.n + 1 + 1; omega
    · show H.n ≤ H.n + 1 + 1; omega
    · intro c hc _
      rw [Heap.get_new_ne _ _ (by show c ≠ H.n + 1; omega), Heap.get_new_ne _ _ (by omega)]
    · intro c hc; cases hc; show H.n ≤ H.n + 1; omega
  · have hx' : (H.new (.cells [w] e 2)).get b = some (.cells vs e 2) := by rw [Heap.get_new_ne _ _ (by omega)]; exact h4
    refine ⟨_, _, _, append_rowW ht h1 hb (news := [w]) hx' hy (by simp) (by simp; omega), Nat.le_trans hB h2, hk _ _ (.inr ⟨_, ?_, ?_, ?_, Heap.get_new_eq _ _⟩) ⟨?_, ?_⟩ ?_⟩
    · simp
    · show B0 ≤ H.n + 1; omega
    · show H.n + 1 < H.n + 1 + 1; omega
    · show H.n ≤ H.n + 1 + 1; omega
    · intro c hc hne
      have hne' : b ≠ c := fun h => hne (by rw [h]; rfl)
      rw [Heap.get_new_ne _ _ (by show c ≠ H.n + 1; omega), Heap.get_set_ne _ _ hne', Heap.get_new_ne _ _ (by omega)]
    · intro c hc; cases hc; show H.n ≤ H.n + 1; omega
end
end Go.AI
namespace Go.Proofs.Ytijimplcjaeneaa
open Go.AI
/-- A row that is the beginning of one of one's own. -/
def Sub (H : Heap) (v : Value) (l : List Int) (n : Nat) : Prop := ∃ c xs, v = .slice (some ⟨c, 0, none⟩) l.length 0 ∧ n ≤ c ∧ c < H.n ∧ H.get c = some (.cells (List.map VI xs) 3 2) ∧ l = xs.take l.length ∧ l.length ≤ xs.length
theorem Sub.ints {H : Heap} {v : Value} {l : List Int} {n : Nat} (h : Sub H v l n) : Ints H v l := by
  obtain ⟨c, xs, rfl, h1, h2, h3, h4, h5⟩ := h
  refine .inr (.inr ⟨c, 0, 0, _, 3, 2, by rw [List.length_map], h2, h3, by decide, by rw [List.length_map, List.length_map]; omega, fun j w hj => ?_⟩)
  rw [Nat.zero_add]
  rw [h4, List.map_take, List.getElem?_take] at hj
  split at hj
  · exact hj
  · cases hj
theorem Sub.old {H H' : Heap} {v : Value} {l : List Int} {n : Nat} (h : Sub H v l n) (hn : H.n ≤ H'.n) (hg : ∀ c, blkOf v = some c → H'.get c = H.get c) : Sub H' v l n := by
  obtain ⟨c, xs, rfl, h1, h2, h3, h4, h5⟩ := h
  exact ⟨c, xs, rfl, h1, by omega, by rw [hg c rfl]; exact h3, h4, h5⟩
theorem Sub.blk {H : Heap} {v : Value} {l : List Int} {n : Nat} (h : Sub H v l n) : ∀ c, blkOf v = some c → n ≤ c ∧ c < H.n := by
  obtain ⟨c, xs, rfl, h1, h2, _⟩ := h
  intro c' hc
  cases hc
  exact ⟨h1, h2⟩
structure GuO (l : List Int) : Prop where
  p : 0 < l.length
  m : l.length ≤ 3
  nd : l.Nodup
  r : ∀ x ∈ l, 0 ≤ x ∧ x ≤ 5
theorem GuO.take {xs : List Int} {k : Nat} (h : OrderL xs) (h6 : xs.length ≤ 6) (h0 : 0 < k) (h3 : k ≤ 3) (hk : k ≤ xs.length) : GuO (xs.take k) := by
  refine ⟨by rw [List.length_take]; omega, by rw [List.length_take]; omega, ?_, fun x hx => ?_⟩
  · refine List.Nodup.sublist (List.take_sublist _ _) ?_
    rw [List.nodup_iff_pairwise_ne, List.pairwise_iff_getElem]
    intro i j hi hj hij e
    have := h.1 i j hi hj (by rw [getElem!_pos xs i hi, getElem!_pos xs j hj]; exact e)
    omega
  · obtain ⟨i, hi, rfl⟩ := List.getElem_of_mem (List.mem_of_mem_take hx)
    have := h.2 i hi
    rw [getElem!_pos xs i hi] at this
    omega
/-- A season of one's own, that is valid. -/
structure SeaO (H : Heap) (s g : Value) (gv : List Value) (st : List Int) (gs : List (List Int)) (n : Nat) : Prop where
  s : Own 3 H s (st.map VI) n
  g : Own 29 H g gv n
  len : gv.length = gs.length
  i : ∀ i, i < gs.length → Sub H gv[i]! gs[i]! n
  so : SoOk st
  go : ∀ i, i < gs.length → GuO gs[i]!
theorem SeaO.gri {H : Heap} {s g : Value} {gv : List Value} {st : List Int} {gs : List (List Int)} {n : Nat} (h : SeaO H s g gv st gs n) : Gri H g gv gs := ⟨h.g.row, h.len, fun i hi => (h.i i hi).ints⟩
theorem guE_of : ∀ {l pre : List Int}, (pre ++ l).Nodup → (∀ x ∈ l, 0 ≤ x ∧ x ≤ 11) → guE pre l = 0
  | [], _, _, _ => rfl
  | g :: t, pre, hp, hr => by
    have h1 := hr g (by simp)
    have hm : g ∉ pre := fun h => (List.nodup_append.1 hp).2.2 g h g (by simp) rfl
    simp only [guE]
    rw [show inB g 0 11 = true by simp [inB]; omega, cond_true, if_neg hm]
    exact guE_of (by rw [List.append_assoc]; exact hp) fun x hx => hr x (by simp [hx])
theorem soE_of : ∀ {l : List Int}, (∀ x ∈ l, 1 ≤ x ∧ x ≤ 6) → soE l = 0
  | [], _ => rfl
  | s :: t, h => by
    have h1 := h s (by simp)
    simp only [soE]
    rw [show inB s 1 6 = true by simp [inB]; omega, cond_true]
    exact soE_of fun x hx => h x (by simp [hx])
theorem gsE_of : ∀ {gs : List (List Int)}, (∀ l ∈ gs, guestsE l = 0) → gsE gs = 0
  | [], _ => rfl
  | g :: t, h => by
    simp only [gsE]
    rw [if_pos (h g (by simp))]
    exact gsE_of fun x hx => h x (by simp [hx])
theorem SeaO.ok {H : Heap} {s g : Value} {gv : List Value} {st : List Int} {gs : List (List Int)} {n : Nat} (h : SeaO H s g gv st gs n) (h9 : gs.length ≤ 9) : seaE st gs = 0 := by
  have h4 := h.so.n
  have h0 := h.so.p
  unfold seaE
  rw [if_neg (by omega), if_neg (by omega), if_pos (soE_of h.so.m), if_neg (by omega)]
  refine gsE_of fun l hl => ?_
  obtain ⟨i, hi, rfl⟩ := List.getElem_of_mem hl
  have hg := h.go i hi
  rw [getElem!_pos gs i hi] at hg
  have hp := hg.p
  unfold guestsE
  rw [if_neg (by omega)]
  exact guE_of (by rw [List.nil_append]; exact hg.nd) fun x hx => by have := hg.r x hx; omega
theorem zeroSe : zeroCellsW Try.prog 68 = some [nilS, nilS] := by kernel_rfl
theorem alSe {H : Heap} : sAlloc Try.prog H 68 = some (.pointer (some ⟨H.n, 0, none⟩), H.new (.cells [nilS, nilS] 68 1), H.n) := alloc_ofW zeroSe
theorem stSe {H : Heap} {b : Nat} {s g s' g' : Value} {e : TypeId} (hs : oneC s = true) (hg : oneC g = true) (hb : H.get b = some (.cells [s', g'] e 1)) : astore Try.prog 68 H (Sev s g) (.pointer (some ⟨b, 0, none⟩)) = some (H.set b (.cells [s, g] e 1), b) := store_allW (vs := [s, g]) hb rfl szSe (by
  have : [s, g].all oneC = (oneC s && (oneC g && true)) := rfl
  rw [this, hs, hg]; rfl)
theorem oneN : oneBB Try.prog 29 = some (.slice none 0 0, 24) := by kernel_rfl
set_option maxHeartbeats 16000000 in
set_option maxRecDepth 100000 in
theorem seasonOf_spec [Orc] {B b most : Nat} {H : Heap} (hB : B ≤ b) (hn : B ≤ H.n) (hb : Box b H) (hm : most ≤ 9) :
    CallB Try.prog B 44 [bp b, VI most] H (fun r H' => (∃ s g gv st gs, r = Sev s g ∧ SeaO H' s g gv st gs H.n ∧ gs.length ≤ most ∧ (∀ x ∈ st, x ≤ 3) ∧ st.length ≤ 3) ∧ Box b H' ∧ KeepX b H H') := by
  have hbn := hb.1
  refine CV.enter callees false (Orc.hv rfl rfl) Try.func44 rfl (by kernel_rfl) (Nat.le_of_ble_eq_true rfl) hn ?_ (Orc.hw rfl rfl)
  repeat' first
    | refine CO.cons rfl ?_
    | refine CO.nil ?_
    | refine CV.seq ?_
    | refine CV.region callees ?_
    | (refine ⟨_, _, alSe, ?_⟩)
    | fail
  generalize hs0 : Heap.new H _ = H0
  have hg0 := new_get hs0
  have k0 := new_keep hs0
  have n0 := new_n hs0
  obtain ⟨b0, hbn0⟩ : ∃ b, Heap.n H = b := ⟨_, rfl⟩
  rw [hbn0] at hg0 n0 ⊢
  repeat' first
    | fail
  generalize hs1 : Heap.new H0 _ = H1
  have hg1 := new_get hs1
  have k1 := new_keep hs1
  have n1 := new_n hs1
  obtain ⟨b1, hbn1⟩ : ∃ b, Heap.n H0 = b := ⟨_, rfl⟩
  rw [hbn1] at hg1 n1 ⊢
  have k01 := k0.trans k1
  have hz1 := (k1.2 b0 (by omega)).trans hg0
  have hb1 := hb.keep k01
  repeat' first
    | fail
  refine (any_spec hB (by omega) hb1 (by omega) (by omega) (by omega)).mono ?_
  rintro r H2 ⟨⟨m, rfl, m1, m2⟩, hb2, k2⟩
  have l2 := k2.1
  have hg2 := (k2.2 b1 (by omega) (by omega)).trans hg1
  have hz2 := (k2.2 b0 (by omega) (by omega)).trans hz1
  have x2 : KeepX b H H2 := (k01.butX b).trans k2
  repeat' first
    | refine CO.cons rfl ?_
    | refine CO.nil ?_
    | refine CV.block ?_
    | fail
  refine CV.loopc ?_
  refine WCv.rounds callees false (α := Value × List Int × Int) (fun (q, st, k) => [(0, bp b), (1, VI most), (4, .pointer (some ⟨b0, 0, none⟩)), (5, .pointer (some ⟨b1, 0, none⟩)), (6, VI k)]) (fun (q, st, k) Hz => (st.length : Int) + k = m ∧ 0 ≤ k ∧ Hz.get b1 = some (.cells [q, nilS] 68 1) ∧ Hz.get b0 = some (.cells [nilS, nilS] 68 1) ∧ Own 3 Hz q (st.map VI) H2.n ∧ (∀ x ∈ st, 1 ≤ x ∧ x ≤ 3) ∧ Box b Hz ∧ KeepX b H Hz ∧ H2.n ≤ Hz.n) (fun (q, st, k) => k.toNat) (nilS, [], m) (by repeat' first | exact trivial | refine ⟨rfl, ?_⟩ | refine ⟨slot_int (by (try simp only [Int.toNat_natCast]); omega), ?_⟩) ?_ ?_
  · exact ⟨by simp, by omega, hg2, hz2, .inl ⟨rfl, rfl⟩, fun i hi => by simp at hi, hb2, x2, Nat.le_refl _⟩
  rintro ⟨q, st, k⟩ Hx ⟨hcl, hk0, hgx, hzx, hq, hst, hbx, xx, lx⟩ hBx
  have hqa : ∀ c, blkOf q = some c → H2.n ≤ c := fun c hc => (hq.lt hc).1
  by_cases hp : 0 < k
  · repeat' first
      | refine CO.cons rfl ?_
      | refine CO.nil ?_
      | refine CV.seq ?_
      | refine CV.region callees ?_
      | refine CV.cond ?_
      | refine CV.block ?_
      | refine CV.skip ?_
      | refine CR.cons ?_
      | refine CV.wideR callees (by decide +kernel) [(0, []), (1, []), (2, []), (3, []), (4, [1]), (5, [1]), (6, [1]), (7, [1]), (8, []), (9, []), (10, [])] (by kernel_rfl) ?_
      | (refine ⟨_, fS fe0 (by decide), ?_⟩)
      | (refine ⟨_, cell_load agN hgx rfl, ?_⟩)
      | (refine ⟨fun _ => ?_, fun _ => ?_⟩ <;> first | (exfalso; omega) | skip)
      | fail
    refine (any_spec hB (by omega) hbx (by omega) (by omega) (by omega)).mono ?_
    rintro r H3 ⟨⟨y, rfl, y1, y2⟩, hb3, k3⟩
    have l3 := k3.1
    have hg3 := (k3.2 b1 (by omega) (by omega)).trans hgx
    have hz3 := (k3.2 b0 (by omega) (by omega)).trans hzx
    have hq3 := own_box hq k3 hbx
    repeat' first
      | refine CR.cons ?_
      | (refine ⟨_, cell_load agN hg3 rfl, ?_⟩)
      | (refine ⟨(rfl : _ = q), ?_⟩)
      | (refine ⟨hq3.same, ?_⟩)
      | (refine ⟨_, _, build_vals [VI 1, VI 1, VI 2, VI y] un22 one3 rfl (Nat.le_of_ble_eq_true rfl), ?_⟩)
      | fail
    generalize hs4 : Heap.new H3 _ = H4
    have hw4 : Ints H4 (.slice (some ⟨H3.n, 0, none⟩) 4 0) [1, 1, 2, y] := by rw [← hs4]; exact new_row rfl
    have k4 := new_keep hs4
    have l4 := k4.1
    have hb4 := hb3.keep k4
    have hg4 := (k4.2 b1 (by omega)).trans hg3
    have hz4 := (k4.2 b0 (by omega)).trans hz3
    have hq4 := hq3.keep k4
    repeat' first
      | fail
    refine (pick_spec hB (by omega) hb4 hw4 (Nat.le_of_ble_eq_true rfl) (Nat.le_of_ble_eq_true rfl)).mono ?_
    rintro r H5 ⟨⟨j, hj, rfl⟩, hb5, k5⟩
    have hz' : 1 ≤ ([1, 1, 2, y] : List Int)[j]! ∧ ([1, 1, 2, y] : List Int)[j]! ≤ 3 := by
      have hj4 : j < 4 := hj
      rcases (by omega : j = 0 ∨ j = 1 ∨ j = 2 ∨ j = 3) with rfl | rfl | rfl | rfl
      · show (1 : Int) ≤ 1 ∧ (1 : Int) ≤ 3; omega
      · show (1 : Int) ≤ 1 ∧ (1 : Int) ≤ 3; omega
      · show (1 : Int) ≤ 2 ∧ (2 : Int) ≤ 3; omega
      · show 1 ≤ y ∧ y ≤ 3; omega
    generalize ([1, 1, 2, y] : List Int)[j]! = z at hz'
    have l5 := k5.1
    have hg5 := (k5.2 b1 (by omega) (by omega)).trans hg4
    have hz5 := (k5.2 b0 (by omega) (by omega)).trans hz4
    have hq5 := own_box hq4 k5 hb4
    have x5 : KeepX b H H5 := ((xx.trans k3).trans (k4.butX b)).trans k5
    repeat' first
      | refine CR.cons ?_
      | (refine ⟨_, cell_load agN hg5 rfl, ?_⟩)
      | (refine ⟨(rfl : _ = q), ?_⟩)
      | (refine ⟨hq5.same, ?_⟩)
      | (refine ⟨_, _, build_one un22 one3 rfl, ?_⟩)
      | fail
    refine push_ask (y := z) hq5 (by omega) (by omega) (by omega) ?_
    intro q9 H9 hq9 kb9 hf9
    have l9 := kb9.le
    have hg9 := (kb9.get b1 (by omega) (fun h => by have := hqa _ h; omega)).trans hg5
    have hz9 := (kb9.get b0 (by omega) (fun h => by have := hqa _ h; omega)).trans hz5
    have hb9 := hb5.keepBut kb9 (fun h => by have := hqa _ h; omega)
    have x9 := kb9.keepX x5 fun c hc => by have := hqa _ hc; omega
    repeat' first
      | refine CR.cons ?_
      | (refine ⟨_, fS fe0 (by decide), ?_⟩)
      | fail
    refine ⟨_, _, store_row (i := 0) szN hg9 (by show 0 < 2; decide) (Row.oneC hq9.row).1, by omega, ?_⟩
    generalize hsA : Heap.set H9 b1 _ = HA
    have hgA : HA.get b1 = some (.cells [q9, nilS] 68 1) := set_get hsA
    have nA := set_n hsA
    have oA := set_old hsA
    have kA : KeepX b1 H9 HA := ⟨by omega, fun c hc hcl => oA c hcl⟩
    repeat' first
      | refine CO.cons rfl ?_
      | refine CO.nil ?_
      | refine CV.region callees ?_
      | refine CR.nil ?_
      | refine ⟨(⟨by omega, by omega⟩ : inI64 _), ?_⟩
      | fail
    refine ⟨(q9, st ++ [z], k - 1), (by repeat' first | exact trivial | refine ⟨rfl, ?_⟩ | refine ⟨slot_int (by (try simp only [Int.toNat_natCast]); omega), ?_⟩), (by (try dsimp only); omega), ?_⟩
    refine ⟨by simp; omega, by omega, hgA, (oA b0 (by omega)).trans hz9, Own.keepX hq9 kA hg9, fun x hx => ?_, hb9.put (by omega) oA nA, KeepX.put x9 (by omega) oA nA, by omega⟩
    rcases List.mem_append.1 hx with h | h
    · exact hst x h
    · rw [List.mem_singleton] at h; omega
  obtain rfl : k = 0 := by omega
  repeat' first
    | refine CO.cons rfl ?_
    | refine CO.nil ?_
    | refine CV.seq ?_
    | refine CV.region callees ?_
    | refine CV.cond ?_
    | refine CV.exit ?_
    | (refine ⟨fun _ => ?_, fun _ => ?_⟩ <;> first | (exfalso; omega) | skip)
    | fail
  refine (any_spec hB (by omega) hbx (by omega) (by omega) (by omega)).mono ?_
  rintro r H3 ⟨⟨gn, rfl, gn1, gn2⟩, hb3, k3⟩
  have l3 := k3.1
  have hg3 := (k3.2 b1 (by omega) (by omega)).trans hgx
  have hz3 := (k3.2 b0 (by omega) (by omega)).trans hzx
  have hq3 := own_box hq k3 hbx
  repeat' first
    | refine CO.cons rfl ?_
    | refine CO.nil ?_
    | refine CV.seq ?_
    | refine CV.region callees ?_
    | refine ⟨(⟨by omega, by omega⟩ : inI64 _), ?_⟩
    | fail
  refine (up_spec hB (by omega) hb3 (by omega)).mono ?_
  rintro r H4 ⟨⟨t, rfl, t1, t2⟩, hb4, k4⟩
  have l4 := k4.1
  have hg4 := (k4.2 b1 (by omega) (by omega)).trans hg3
  have hz4 := (k4.2 b0 (by omega) (by omega)).trans hz3
  have hq4 := own_box hq3 k4 hb3
  have x4 := (xx.trans k3).trans k4
  obtain ⟨gn, rfl⟩ : ∃ n : Nat, gn = (n : Int) := ⟨gn.toNat, by omega⟩
  have hqc : ∀ c, blkOf q = some c → H2.n ≤ c ∧ c < H4.n := fun c hc => ⟨(hq4.lt hc).1, (hq4.lt hc).2⟩
  clear hgx hzx hq hg3 hz3 hq3 hb3
  repeat' first
    | refine CO.cons rfl ?_
    | refine CO.nil ?_
    | refine CV.block ?_
    | fail
  refine CV.loopc ?_
  refine WCv.rounds callees false (α := Value × List Value × List (List Int) × Int) (fun (gq, gv, gs, k) => [(0, bp b), (4, .pointer (some ⟨b0, 0, none⟩)), (5, .pointer (some ⟨b1, 0, none⟩)), (7, VI gn), (8, VI k)]) (fun (gq, gv, gs, k) Hz => (gs.length : Int) + k = t ∧ 0 ≤ k ∧ Hz.get b1 = some (.cells [q, gq] 68 1) ∧ Hz.get b0 = some (.cells [nilS, nilS] 68 1) ∧ Own 3 Hz q (st.map VI) H2.n ∧ Own 29 Hz gq gv H4.n ∧ gv.length = gs.length ∧ (∀ i, i < gs.length → Sub Hz gv[i]! gs[i]! H4.n ∧ (∀ c, blkOf gv[i]! = some c → blkOf gq ≠ some c)) ∧ (∀ i, i < gs.length → GuO gs[i]!) ∧ Box b Hz ∧ KeepX b H Hz ∧ H4.n ≤ Hz.n) (fun (gq, gv, gs, k) => k.toNat) (nilS, [], [], t) (by repeat' first | exact trivial | refine ⟨rfl, ?_⟩ | refine ⟨slot_int (by (try simp only [Int.toNat_natCast]); omega), ?_⟩) ?_ ?_
  · exact ⟨by simp, by omega, hg4, hz4, hq4, .inl ⟨rfl, rfl⟩, rfl, fun i hi => by simp at hi, fun i hi => by simp at hi, hb4, x4, Nat.le_refl _⟩
  rintro ⟨gq, gv, gs, k⟩ Hy ⟨htl, hk0, hgy, hzy, hqy, hty, hgl, hsub, hgo, hby, xy, ly⟩ hBy
  have hta : ∀ c, blkOf gq = some c → H4.n ≤ c := fun c hc => (hty.lt hc).1
  have htb : ∀ c, blkOf gq = some c → c < Hy.n := fun c hc => (hty.lt hc).2
  by_cases hp : 0 < k
  · repeat' first
      | refine CO.cons rfl ?_
      | refine CO.nil ?_
      | refine CV.seq ?_
      | refine CV.region callees ?_
      | refine CV.cond ?_
      | refine CV.block ?_
      | refine CV.skip ?_
      | (refine ⟨fun _ => ?_, fun _ => ?_⟩ <;> first | (exfalso; omega) | skip)
      | fail
    refine (order_spec hB (by omega) hby (by omega)).mono ?_
    rintro ol H5 ⟨⟨xs, ho, hol, hoo⟩, hb5, k5⟩
    have l5 := k5.1
    have hg5 := (k5.2 b1 (by omega) (by omega)).trans hgy
    have hz5 := (k5.2 b0 (by omega) (by omega)).trans hzy
    have hq5 := own_box hqy k5 hby
    have ht5 := own_box hty k5 hby
    have hbn5 := hby.1
    have hs5 : ∀ i, i < gs.length → Sub H5 gv[i]! gs[i]! H4.n := fun i hi => (hsub i hi).1.old l5 fun c hc => k5.2 c ((hsub i hi).1.blk c hc).2 (by have := ((hsub i hi).1.blk c hc).1; omega)
    obtain ⟨ob, rfl, ob1, ob2, hog⟩ : ∃ ob, ol = .slice (some ⟨ob, 0, none⟩) gn 0 ∧ Hy.n ≤ ob ∧ ob < H5.n ∧ H5.get ob = some (.cells (xs.map VI) 3 2) := by
      rcases hoo with ⟨_, h⟩ | ⟨ob, rfl, h1, h2, h3⟩
      · have := congrArg List.length h; rw [List.length_map, List.length_nil] at this; omega
      · exact ⟨ob, by rw [List.length_map, hol], h1, h2, h3⟩
    have hmin : min (3 : Int) (gn : Int) ≤ 3 ∧ min (3 : Int) (gn : Int) ≤ gn ∧ 1 ≤ min (3 : Int) (gn : Int) := by omega
    repeat' first
      | refine CO.cons rfl ?_
      | refine CO.nil ?_
      | refine CR.cons ?_
      | refine CV.wideR callees (by decide +kernel) [(0, []), (1, []), (2, []), (3, []), (4, []), (5, []), (6, [1]), (7, []), (8, [1]), (9, []), (10, []), (11, [])] (by kernel_rfl) ?_
      | (refine ⟨_, fS fe1 (by decide), ?_⟩)
      | (refine ⟨_, cell_load agGr hg5 rfl, ?_⟩)
      | (refine ⟨_, fun tm ha => step1_min rfl rfl (ev_tmp ha rfl), ?_⟩)
      | fail
    refine (any_spec (l := 1) (h := min 3 (gn : Int)) hB (by omega) hb5 (by omega) (by omega) (by omega)).mono ?_
    rintro r H6 ⟨⟨w, rfl, w1, w2⟩, hb6, k6⟩
    obtain ⟨w, rfl⟩ : ∃ n : Nat, w = (n : Int) := ⟨w.toNat, by omega⟩
    have l6 := k6.1
    have hg6 := (k6.2 b1 (by omega) (by omega)).trans hg5
    have hz6 := (k6.2 b0 (by omega) (by omega)).trans hz5
    have hq6 := own_box hq5 k6 hb5
    have ht6 := own_box ht5 k6 hb5
    have hog6 := (k6.2 ob (by omega) (by omega)).trans hog
    have hs6 : ∀ i, i < gs.length → Sub H6 gv[i]! gs[i]! H4.n := fun i hi => (hs5 i hi).old l6 fun c hc => k6.2 c ((hs5 i hi).blk c hc).2 (by have := ((hs5 i hi).blk c hc).1; omega)
    have x6 : KeepX b H H6 := (xy.trans k5).trans k6
    repeat' first
      | refine CR.cons ?_
      | (refine ⟨_, cell_load agGr hg6 rfl, ?_⟩)
      | (refine ⟨(rfl : _ = gq), ?_⟩)
      | (refine ⟨ht6.same, ?_⟩)
      | (refine ⟨_, sl_cut (by omega) (by omega), ?_⟩)
      | (refine ⟨_, _, build_one unG oneN rfl, ?_⟩)
      | fail
    refine append_askW unG oneN (by omega) ht6 (by omega) (by omega) (by omega) ?_
    intro q9 H9 hq9 kb9 hf9
    have l9 := kb9.le
    have hg9 := (kb9.get b1 (by omega) (fun h => by have := hta _ h; omega)).trans hg6
    have hz9 := (kb9.get b0 (by omega) (fun h => by have := hta _ h; omega)).trans hz6
    have hb9 := hb6.keepBut kb9 (fun h => by have := hta _ h; omega)
    have x9 := kb9.keepX x6 fun c hc => by have := hta _ hc; omega
    have hog9 := (kb9.get ob (by omega) (fun h => by have := htb _ h; omega)).trans hog6
    have hq9s : Own 3 H9 q (st.map VI) H2.n := own_keepF hq6 (by omega) fun c hc => kb9.get c (by have := hqc c hc; omega) fun h => by have := hta _ h; have := hqc c hc; omega
    repeat' first
      | refine CR.cons ?_
      | (refine ⟨_, fS fe1 (by decide), ?_⟩)
      | fail
    refine ⟨_, _, store_row (i := 1) szN hg9 (by show 1 < 2; decide) (Row.oneC hq9.row).1, by omega, ?_⟩
    generalize hsA : Heap.set H9 b1 _ = HA
    have hgA : HA.get b1 = some (.cells [q, q9] 68 1) := set_get hsA
    have nA := set_n hsA
    have oA := set_old hsA
    have kA : KeepX b1 H9 HA := ⟨by omega, fun c hc hcl => oA c hcl⟩
    have hwt : (xs.take w).length = w := by rw [List.length_take]; omega
    repeat' first
      | refine CO.cons rfl ?_
      | refine CO.nil ?_
      | refine CV.region callees ?_
      | refine CR.nil ?_
      | refine ⟨(⟨by omega, by omega⟩ : inI64 _), ?_⟩
      | fail
    refine ⟨(q9, gv ++ [.slice (some ⟨ob, 0, none⟩) w 0], gs ++ [xs.take w], k - 1), (by repeat' first | exact trivial | refine ⟨rfl, ?_⟩ | refine ⟨slot_int (by (try simp only [Int.toNat_natCast]); omega), ?_⟩), (by (try dsimp only); omega), ?_⟩
    refine ⟨by simp; omega, by omega, hgA, (oA b0 (by omega)).trans hz9, Own.keepX hq9s kA hg9, Own.keepX hq9 kA hg9, by simp [hgl], fun i hi => ?_, fun i hi => ?_, hb9.put (by omega) oA nA, KeepX.put x9 (by omega) oA nA, by omega⟩
    · rw [List.length_append, List.length_singleton] at hi
      rw [getElem!_pos _ i (by rw [List.length_append, List.length_singleton]; omega), getElem!_pos _ i (by rw [List.length_append, List.length_singleton]; omega)]
      by_cases hi2 : i < gs.length
      · rw [List.getElem_append_left (by omega), List.getElem_append_left hi2]
        have h1 := hs6 i hi2
        have h2 := (hsub i hi2).2
        rw [getElem!_pos gv i (by omega), getElem!_pos gs i hi2] at h1
        rw [getElem!_pos gv i (by omega)] at h2
        have h3 := (hsub i hi2).1.blk
        rw [getElem!_pos gv i (by omega)] at h3
        refine ⟨h1.old (by omega) fun c hc => (oA c (by have := h3 c hc; omega)).trans (kb9.get c (by have := h3 c hc; omega) (h2 c hc)), fun c hc h => ?_⟩
        have := hf9 c h
        have := h3 c hc
        omega
      · rw [List.getElem_append_right (by omega), List.getElem_append_right (by omega)]
        simp only [List.getElem_singleton]
        refine ⟨⟨ob, xs, by rw [hwt], by omega, by omega, (oA ob (by omega)).trans hog9, by rw [hwt], by omega⟩, fun c hc h => ?_⟩
        have := hf9 c h
        cases hc
        omega
    · rw [List.length_append, List.length_singleton] at hi
      rw [getElem!_pos _ i (by rw [List.length_append, List.length_singleton]; omega)]
      by_cases hi2 : i < gs.length
      · rw [List.getElem_append_left hi2]
        have := hgo i hi2
        rwa [getElem!_pos gs i hi2] at this
      · rw [List.getElem_append_right (by omega)]
        simp only [List.getElem_singleton]
        exact GuO.take ho (by omega) (by omega) (by omega) (by omega)
  obtain rfl : k = 0 := by omega
  repeat' first
    | refine CO.cons rfl ?_
    | refine CO.nil ?_
    | refine CV.seq ?_
    | refine CV.region callees ?_
    | refine CV.cond ?_
    | refine CV.exit ?_
    | (refine ⟨_, ldSe hgy, ?_⟩)
    | (refine ⟨fun _ => ?_, fun _ => ?_⟩ <;> first | (exfalso; omega) | skip)
    | fail
  refine ⟨_, _, stSe (Row.oneC hqy.row).1 (Row.oneC hty.row).1 hzy, by omega, ?_⟩
  generalize hs5 : Heap.set Hy b0 _ = H5
  have hg5 : H5.get b0 = some (.cells ([q, gq]) 68 1) := set_get hs5
  have n5 := set_n hs5
  have o5 := set_old hs5
  repeat' first
    | refine CO.nil ?_
    | refine CV.ret ?_
    | fail
  have kA : KeepX b0 Hy H5 := ⟨by omega, fun c hc hcl => o5 c hcl⟩
  refine ⟨_, ldSe hg5, rfl, ⟨q, gq, gv, st, gs, rfl, ⟨Own.lower (Own.keepX hqy kA hzy) (by omega), Own.lower (Own.keepX hty kA hzy) (by omega), hgl, fun i hi => ?_, ⟨by omega, by omega, fun x hx => by have := hst x hx; omega⟩, hgo⟩, by omega, fun x hx => (hst x hx).2, by omega⟩, hby.put (by omega) o5 n5, KeepX.put xy (by omega) o5 n5⟩
  obtain ⟨c, xs, h1, h2, h3, h4, h5, h6⟩ := (hsub i hi).1
  exact ⟨c, xs, h1, by omega, by omega, (o5 c (by omega)).trans h4, h5, h6⟩
end Go.Proofs.Ytijimplcjaeneaa



/- Copies of seasons; whether two are equal; those that are vast. -/
namespace Go.Proofs.Ytijimplcjaeneaa
open Go.AI
theorem buSe0 {x y : Option Addr} {n m c d : Nat} : abuild Try.prog 68 [(0, .slice x n c), (1, .slice y m d)] = some (Sev (.slice x n c) (.slice y m d)) := by kernel_rfl
theorem row_sl {H : Heap} {v : Value} {vs : List Value} (h : Row H v vs) : ∃ x n c, v = .slice x n c := by
  rcases h with ⟨rfl, _⟩ | ⟨rfl, _⟩ | ⟨b, i, c, cs, e, kd, rfl, _⟩
  · exact ⟨_, _, _, rfl⟩
  · exact ⟨_, _, _, rfl⟩
  · exact ⟨_, _, _, rfl⟩
theorem buSe {H : Heap} {s g : Value} {vs ws : List Value} (hs : Row H s vs) (hg : Row H g ws) : abuild Try.prog 68 [(0, s), (1, g)] = some (Sev s g) := by
  obtain ⟨x, n, c, rfl⟩ := row_sl hs
  obtain ⟨y, m, d, rfl⟩ := row_sl hg
  exact buSe0
end Go.Proofs.Ytijimplcjaeneaa

