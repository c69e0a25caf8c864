/- Several texts in one. -/
import Derived.Test.YtijimplcjaeneaaO3
import Derived.Test.YtijimplcjaeneaaO4
import Derived.Test.YtijimplcjaeneaaO1
set_option linter.unusedVariables false
set_option linter.unusedSimpArgs false

/- Seasons: cells, the check. -/
namespace Go.Proofs.Ytijimplcjaeneaa
open Go.AI
theorem agN : isAggB Try.prog 29 = some false := by kernel_rfl
theorem szN : sizeB Try.prog 29 = some 1 := by kernel_rfl
theorem unG : Try.prog.underlying 39 = some (.slice 29) := by kernel_rfl
/-- Rows of rows of numbers. -/
structure Gri (H : Heap) (v : Value) (vs : List Value) (gs : List (List Int)) : Prop where
  row : Row H v vs
  len : vs.length = gs.length
  ints : ∀ i, i < gs.length → Ints H vs[i]! gs[i]!
theorem Gri.keep {H H' : Heap} {v : Value} {vs : List Value} {gs : List (List Int)} (h : Gri H v vs gs) (k : Keep H H') : Gri H' v vs gs := ⟨h.row.keep k, h.len, fun i hi => (h.ints i hi).keep k⟩
theorem Gri.keepM {H H' : Heap} {v : Value} {vs : List Value} {gs : List (List Int)} {r : Nat} {es : List (Value × Value)} (h : Gri H v vs gs) (k : KeepX r H H') (hr : H.get r = some (.map es)) : Gri H' v vs gs := ⟨h.row.keepM k hr, h.len, fun i hi => Row.keepM (h.ints i hi) k hr⟩
theorem Gri.alen {H : Heap} {v : Value} {vs : List Value} {gs : List (List Int)} (h : Gri H v vs gs) : alen Try.prog H 39 v = some (.int .i64 gs.length) := by rw [← h.len]; exact h.row.alen unG
theorem Gri.addr {H : Heap} {v : Value} {vs : List Value} {gs : List (List Int)} (h : Gri H v vs gs) {i : Nat} (hi : i < gs.length) : aindexAddr Try.prog 39 v (VI i) = some (elemAt v i) := h.row.addr unG szN (by omega) (by rw [h.len]; omega)
theorem Gri.load {H : Heap} {v : Value} {vs : List Value} {gs : List (List Int)} (h : Gri H v vs gs) {i : Nat} (hi : i < gs.length) : aload Try.prog 29 H (elemAt v i) = some vs[i]! :=
  h.row.load agN (by rw [getElem!_pos vs i (by rw [h.len]; exact hi)]; exact List.getElem?_eq_getElem _)
/-- The first error of the guests of a gathering. -/
def guE (pre : List Int) : List Int → Int
  | [] => 0
  | g :: t => bif inB g 0 11 then (if g ∈ pre then 9 else guE (pre ++ [g]) t) else 2
def guestsE (gs : List Int) : Int := if gs.length = 0 then 6 else guE [] gs
def soE : List Int → Int
  | [] => 0
  | s :: t => bif inB s 1 6 then soE t else 2
def gsE : List (List Int) → Int
  | [] => 0
  | g :: t => if guestsE g = 0 then gsE t else guestsE g
def seaE (st : List Int) (gs : List (List Int)) : Int := if st.length = 0 then 6 else if 4 < st.length then 8 else if soE st = 0 then (if 9 < gs.length then 8 else gsE gs) else 2
/-- How many combinations there are. -/
def combos : List Int → Int
  | [] => 1
  | s :: t => s * combos t
end Go.Proofs.Ytijimplcjaeneaa



/- Seasons: the reference's check; how many combinations. -/
namespace Go.Proofs.Ytijimplcjaeneaa
open Go.AI
theorem combos_bd : ∀ {l : List Int}, (∀ x ∈ l, 1 ≤ x ∧ x ≤ 6) → 1 ≤ combos l ∧ combos l ≤ 6 ^ l.length
  | [], _ => by simp [combos]
  | s :: t, h => by
    have h1 := h s (by simp)
    have h2 := combos_bd (l := t) fun x hx => h x (by simp [hx])
    have h3 : s * combos t ≤ 6 * 6 ^ t.length := Int.mul_le_mul h1.2 h2.2 (by omega) (by omega)
    have h4 : 1 * 1 ≤ s * combos t := Int.mul_le_mul h1.1 h2.1 (by omega) (by omega)
    simp only [combos, List.length_cons]
    rw [Int.pow_succ]
    omega
structure SoOk (st : List Int) : Prop where
  n : st.length ≤ 4
  p : 0 < st.length
  m : ∀ x ∈ st, 1 ≤ x ∧ x ≤ 6
theorem SoOk.bd {st : List Int} (h : SoOk st) (i : Nat) : 1 ≤ combos (st.take i) ∧ combos (st.take i) ≤ 1296 := by
  have h1 := combos_bd (l := st.take i) fun x hx => h.m x (List.mem_of_mem_take hx)
  have h2 : (st.take i).length ≤ 4 := by rw [List.length_take]; have := h.n; omega
  refine ⟨h1.1, ?_⟩
  have h3 : (6 : Int) ^ (st.take i).length ≤ 1296 := by
    generalize (st.take i).length = n at h2
    rcases (by omega : n = 0 ∨ n = 1 ∨ n = 2 ∨ n = 3 ∨ n = 4) with rfl | rfl | rfl | rfl | rfl <;> decide
  omega
theorem SoOk.all {st : List Int} (h : SoOk st) : 1 ≤ combos st ∧ combos st ≤ 1296 := by
  have := h.bd st.length
  rwa [List.take_length] at this
end Go.Proofs.Ytijimplcjaeneaa



/- Combinations, by the program and by the reference. -/
namespace Go.Proofs.Ytijimplcjaeneaa
open Go.AI
end Go.Proofs.Ytijimplcjaeneaa



/- Meetings: a map keyed by guests and combinations. -/
namespace Go.Proofs.Ytijimplcjaeneaa
open Go.AI
/-- What is added, for the first of the guests. -/
def addF (f : Int → Int → Int) (gl : List Int) (c t : Int) : Int → Int → Int := fun g d => f g d + if d = c ∧ g ∈ gl then t else 0
end Go.Proofs.Ytijimplcjaeneaa



/- Repeats of a plan. -/
namespace Go.Proofs.Ytijimplcjaeneaa
open Go.AI
/-- How often a guest met a combination, at the first gatherings. -/
def cntF (gs : List (List Int)) (plan : List Int) : Nat → Int → Int → Int
  | 0 => fun _ _ => 0
  | i + 1 => addF (cntF gs plan i) gs[i]! plan[i]! 1
/-- The guests of a gathering who meet its combination again. -/
def againL (gs : List (List Int)) (plan : List Int) (i : Nat) : List Int := gs[i]!.filter fun g => decide (0 < cntF gs plan i g plan[i]!)
structure GsOk (gs : List (List Int)) : Prop where
  n : gs.length ≤ 9
  p : ∀ i, i < gs.length → 0 < gs[i]!.length
  nd : ∀ i, i < gs.length → gs[i]!.Nodup
  r : ∀ i, i < gs.length → ∀ x ∈ gs[i]!, 0 ≤ x ∧ x ≤ 11
end Go.Proofs.Ytijimplcjaeneaa



/- Repeats of a plan, by the reference. -/
namespace Go.Proofs.Ytijimplcjaeneaa
open Go.AI
end Go.Proofs.Ytijimplcjaeneaa



/- Seasons made of numbers. -/
namespace Go.AI
section
variable {P : Program} {H : Heap} {t e : TypeId} {z : Value} {by' : Nat}
theorem append_nilW (ht : P.underlying t = some (.slice e)) (h1 : oneBB P e = some (z, by')) (hb : by' ≤ 1000) {b' : Nat} {news : List Value} {e' : TypeId} {k : Nat} (hy : H.get b' = some (.cells news e' k)) (hn0 : 0 < news.length) (hn : news.length ≤ 1000000) :
    aappend P H #[t, t] (.slice none 0 0) (.slice (some ⟨b', 0, none⟩) news.length 0) = some (.slice (some ⟨H.n, 0, none⟩) news.length 0, H.new (.cells news e 2), H.n) := by
  obtain ⟨info, hi, hz, hs, hc, hsc, hby⟩ := oneBB_spec h1
  have hmul : news.length * info.bytes ≤ 1000000 * 1000 := Nat.mul_le_mul hn (by omega)
  simp only [aappend, ht, hi, hz, hc, hs, sourceOf, hy]
  have hl : ¬ news.length = 0 := by omega
  rw [if_neg (by simp), if_neg (by simp), if_pos (by simp)]
  simp only [hl, if_false, Nat.mul_one, List.drop_zero, List.take_length, Nat.zero_add]
  rw [if_pos ⟨by show news.length ≤ 9223372036854775807; omega, by omega⟩]
  rfl
theorem append_rowW (ht : P.underlying t = some (.slice e)) (h1 : oneBB P e = some (z, by')) (hb : by' ≤ 1000) {b b' : Nat} {cs news : List Value} {e' : TypeId} {k : Nat} (hx : H.get b = some (.cells cs e 2)) (hy : H.get b' = some (.cells news e' k)) (hn0 : 0 < news.length) (hn : cs.length + news.length ≤ 1000000) :
    aappend P H #[t, t] (.slice (some ⟨b, 0, none⟩) cs.length 0) (.slice (some ⟨b', 0, none⟩) news.length 0) = some (.slice (some ⟨H.n, 0, none⟩) (cs.length + news.length) 0, (H.set b .gone).new (.cells (cs ++ news) e 2), b) := by
  obtain ⟨info, hi, hz, hs, hc, hsc, hby⟩ := oneBB_spec h1
  have hmul : (cs.length + news.length) * info.bytes ≤ 1000000 * 1000 := Nat.mul_le_mul hn (by omega)
  simp only [aappend, ht, hi, hz, hc, hs, sourceOf, hy, hx]
  have hl : ¬ news.length = 0 := by omega
  rw [if_neg (by simp), if_neg (by simp), if_pos (by simp)]
  simp only [hl, if_false, Nat.mul_one, List.drop_zero, List.take_length, Nat.zero_add]
  rw [if_neg (by simp), if_pos ⟨trivial, trivial, by show cs.length + news.length ≤ 9223372036854775807; omega, by omega⟩]
  rfl
theorem append_askW {K : Value → Heap → Prop} {B B0 : Nat} {x w : Value} {vs : List Value} (ht : P.underlying t = some (.slice e)) (h1 : oneBB P e = some (z, by')) (hb : by' ≤ 1000) (hx : Own e H x vs B0) (hB0 : B0 ≤ H.n) (hB : B ≤ B0) (hn : vs.length < 1000000)
    (hk : ∀ r H', Own e H' r (vs ++ [w]) B0 → KeepBut x H H' → (∀ c, blkOf r = some c → H.n ≤ c) → K r H') :
    ∃ v H' b, aappend P (H.new (.cells [w] e 2)) #[t, t] x (.slice (some ⟨H.n, 0, none⟩) 1 0) = some (v, H', b) ∧ B ≤ b ∧ K v H' := by
  have hy : (H.new (.cells [w] e 2)).get H.n = some (.cells [w] e 2) := Heap.get_new_eq _ _
  rcases hx with ⟨rfl, rfl⟩ | ⟨b, rfl, h2, h3, h4⟩
  · refine ⟨_, _, _, append_nilW ht h1 hb (news := [w]) hy (by simp) (by simp), ?_, hk _ _ (.inr ⟨_, rfl, ?_, ?_, Heap.get_new_eq _ _⟩) ⟨?_, ?_⟩ ?_⟩
    · show B ≤ H.n + 1; omega
    · show B0 ≤ H.n + 1; omega
    · show H.n + 1 < H.n + 1 + 1; omega
    · show H.n ≤ H.n + 1 + 1; omega
    · intro c hc _
      rw [Heap.get_new_ne _ _ (by show c ≠ H.n + 1; omega), Heap.get_new_ne _ _ (by omega)]
    · intro c hc; cases hc; show H.n ≤ H.n + 1; omega
  · have hx' : (H.new (.cells [w] e 2)).get b = some (.cells vs e 2) := by rw [Heap.get_new_ne _ _ (by omega)]; exact h4
    refine ⟨_, _, _, append_rowW ht h1 hb (news := [w]) hx' hy (by simp) (by simp; omega), Nat.le_trans hB h2, hk _ _ (.inr ⟨_, ?_, ?_, ?_, Heap.get_new_eq _ _⟩) ⟨?_, ?_⟩ ?_⟩
    · simp
    · show B0 ≤ H.n + 1; omega
    · show H.n + 1 < H.n + 1 + 1; omega
    · show H.n ≤ H.n + 1 + 1; omega
    · intro c hc hne
      have hne' : b ≠ c := fun h => hne (by rw [h]; rfl)
      rw [Heap.get_new_ne _ _ (by show c ≠ H.n + 1; omega), Heap.get_set_ne _ _ hne', Heap.get_new_ne _ _ (by omega)]
    · intro c hc; cases hc; show H.n ≤ H.n + 1; omega
end
end Go.AI
namespace Go.Proofs.Ytijimplcjaeneaa
open Go.AI
/-- A row that is the beginning of one of one's own. -/
def Sub (H : Heap) (v : Value) (l : List Int) (n : Nat) : Prop := ∃ c xs, v = .slice (some ⟨c, 0, none⟩) l.length 0 ∧ n ≤ c ∧ c < H.n ∧ H.get c = some (.cells (List.map VI xs) 3 2) ∧ l = xs.take l.length ∧ l.length ≤ xs.length
theorem Sub.ints {H : Heap} {v : Value} {l : List Int} {n : Nat} (h : Sub H v l n) : Ints H v l := by
  obtain ⟨c, xs, rfl, h1, h2, h3, h4, h5⟩ := h
  refine .inr (.inr ⟨c, 0, 0, _, 3, 2, by rw [List.length_map], h2, h3, by decide, by rw [List.length_map, List.length_map]; omega, fun j w hj => ?_⟩)
  rw [Nat.zero_add]
  rw [h4, List.map_take, List.getElem?_take] at hj
  split at hj
  · exact hj
  · cases hj
theorem Sub.old {H H' : Heap} {v : Value} {l : List Int} {n : Nat} (h : Sub H v l n) (hn : H.n ≤ H'.n) (hg : ∀ c, blkOf v = some c → H'.get c = H.get c) : Sub H' v l n := by
  obtain ⟨c, xs, rfl, h1, h2, h3, h4, h5⟩ := h
  exact ⟨c, xs, rfl, h1, by omega, by rw [hg c rfl]; exact h3, h4, h5⟩
theorem Sub.blk {H : Heap} {v : Value} {l : List Int} {n : Nat} (h : Sub H v l n) : ∀ c, blkOf v = some c → n ≤ c ∧ c < H.n := by
  obtain ⟨c, xs, rfl, h1, h2, _⟩ := h
  intro c' hc
  cases hc
  exact ⟨h1, h2⟩
structure GuO (l : List Int) : Prop where
  p : 0 < l.length
  m : l.length ≤ 3
  nd : l.Nodup
  r : ∀ x ∈ l, 0 ≤ x ∧ x ≤ 5
theorem GuO.take {xs : List Int} {k : Nat} (h : OrderL xs) (h6 : xs.length ≤ 6) (h0 : 0 < k) (h3 : k ≤ 3) (hk : k ≤ xs.length) : GuO (xs.take k) := by
  refine ⟨by rw [List.length_take]; omega, by rw [List.length_take]; omega, ?_, fun x hx => ?_⟩
  · refine List.Nodup.sublist (List.take_sublist _ _) ?_
    rw [List.nodup_iff_pairwise_ne, List.pairwise_iff_getElem]
    intro i j hi hj hij e
    have := h.1 i j hi hj (by rw [getElem!_pos xs i hi, getElem!_pos xs j hj]; exact e)
    omega
  · obtain ⟨i, hi, rfl⟩ := List.getElem_of_mem (List.mem_of_mem_take hx)
    have := h.2 i hi
    rw [getElem!_pos xs i hi] at this
    omega
/-- A season of one's own, that is valid. -/
structure SeaO (H : Heap) (s g : Value) (gv : List Value) (st : List Int) (gs : List (List Int)) (n : Nat) : Prop where
  s : Own 3 H s (st.map VI) n
  g : Own 29 H g gv n
  len : gv.length = gs.length
  i : ∀ i, i < gs.length → Sub H gv[i]! gs[i]! n
  so : SoOk st
  go : ∀ i, i < gs.length → GuO gs[i]!
theorem SeaO.gri {H : Heap} {s g : Value} {gv : List Value} {st : List Int} {gs : List (List Int)} {n : Nat} (h : SeaO H s g gv st gs n) : Gri H g gv gs := ⟨h.g.row, h.len, fun i hi => (h.i i hi).ints⟩
theorem guE_of : ∀ {l pre : List Int}, (pre ++ l).Nodup → (∀ x ∈ l, 0 ≤ x ∧ x ≤ 11) → guE pre l = 0
  | [], _, _, _ => rfl
  | g :: t, pre, hp, hr => by
    have h1 := hr g (by simp)
    have hm : g ∉ pre := fun h => (List.nodup_append.1 hp).2.2 g h g (by simp) rfl
    simp only [guE]
    rw [show inB g 0 11 = true by simp [inB]; omega, cond_true, if_neg hm]
    exact guE_of (by rw [List.append_assoc]; exact hp) fun x hx => hr x (by simp [hx])
theorem soE_of : ∀ {l : List Int}, (∀ x ∈ l, 1 ≤ x ∧ x ≤ 6) → soE l = 0
  | [], _ => rfl
  | s :: t, h => by
    have h1 := h s (by simp)
    simp only [soE]
    rw [show inB s 1 6 = true by simp [inB]; omega, cond_true]
    exact soE_of fun x hx => h x (by simp [hx])
theorem gsE_of : ∀ {gs : List (List Int)}, (∀ l ∈ gs, guestsE l = 0) → gsE gs = 0
  | [], _ => rfl
  | g :: t, h => by
    simp only [gsE]
    rw [if_pos (h g (by simp))]
    exact gsE_of fun x hx => h x (by simp [hx])
theorem SeaO.ok {H : Heap} {s g : Value} {gv : List Value} {st : List Int} {gs : List (List Int)} {n : Nat} (h : SeaO H s g gv st gs n) (h9 : gs.length ≤ 9) : seaE st gs = 0 := by
  have h4 := h.so.n
  have h0 := h.so.p
  unfold seaE
  rw [if_neg (by omega), if_neg (by omega), if_pos (soE_of h.so.m), if_neg (by omega)]
  refine gsE_of fun l hl => ?_
  obtain ⟨i, hi, rfl⟩ := List.getElem_of_mem hl
  have hg := h.go i hi
  rw [getElem!_pos gs i hi] at hg
  have hp := hg.p
  unfold guestsE
  rw [if_neg (by omega)]
  exact guE_of (by rw [List.nil_append]; exact hg.nd) fun x hx => by have := hg.r x hx; omega
theorem oneN : oneBB Try.prog 29 = some (.slice none 0 0, 24) := by kernel_rfl
end Go.Proofs.Ytijimplcjaeneaa



/- Copies of seasons; whether two are equal; those that are vast. -/
namespace Go.Proofs.Ytijimplcjaeneaa
open Go.AI
theorem row_sl {H : Heap} {v : Value} {vs : List Value} (h : Row H v vs) : ∃ x n c, v = .slice x n c := by
  rcases h with ⟨rfl, _⟩ | ⟨rfl, _⟩ | ⟨b, i, c, cs, e, kd, rfl, _⟩
  · exact ⟨_, _, _, rfl⟩
  · exact ⟨_, _, _, rfl⟩
  · exact ⟨_, _, _, rfl⟩
set_option maxHeartbeats 16000000 in
set_option maxRecDepth 100000 in
theorem eqLists_spec [Orc] {B : Nat} {H : Heap} {v w : Value} {vs ws : List Value} {gs : List (List Int)} (hB : B ≤ H.n) (hv : Gri H v vs gs) (hw : Gri H w ws gs) (hgn : gs.length < 1000000) (hgl : ∀ i, i < gs.length → gs[i]!.length < 1000000) :
    CallB Try.prog B 28 [v, w] H (fun r H' => r = .bool true ∧ Keep H H') := by
  refine CV.enter callees false (Orc.hv rfl rfl) Try.func28 rfl (by kernel_rfl) (Nat.le_of_ble_eq_true rfl) hB ?_ (Orc.hw rfl rfl)
  repeat' first
    | refine CO.cons rfl ?_
    | refine CO.nil ?_
    | refine CV.seq ?_
    | refine CV.region callees ?_
    | refine CV.cond ?_
    | refine CV.block ?_
    | refine CV.skip ?_
    | (refine ⟨_, hv.alen, ?_⟩)
    | (refine ⟨_, hw.alen, ?_⟩)
    | (refine ⟨fun _ => ?_, fun _ => ?_⟩ <;> first | (exfalso; omega) | skip)
    | fail
  refine CV.loopc ?_
  refine WCv.rounds callees false (α := Nat) (fun i => [(0, v), (1, w), (5, VI i)]) (fun i Hz => i ≤ gs.length ∧ Keep H Hz) (fun i => gs.length - i) (0) (by repeat' first | exact trivial | refine ⟨rfl, ?_⟩ | refine ⟨slot_int (by (try simp only [Int.toNat_natCast]); omega), ?_⟩) ?_ ?_
  · exact ⟨by omega, Keep.refl _⟩
  rintro i Hx ⟨hi, kx⟩ hBx
  have lx := kx.1
  have hvx := hv.keep kx
  have hwx := hw.keep kx
  by_cases hi2 : i < gs.length
  · have h1 := hvx.addr hi2
    have h2 := hvx.load hi2
    have h3 := hwx.addr hi2
    have h4 := hwx.load hi2
    repeat' first
      | refine CO.cons rfl ?_
      | refine CO.nil ?_
      | refine CV.seq ?_
      | refine CV.region callees ?_
      | refine CV.cond ?_
      | refine CV.block ?_
      | refine CV.skip ?_
      | refine CV.draw callees (by decide +kernel) ?_
      | refine CH.cons rfl ?_
      | refine CH.nil ?_
      | (refine ⟨_, hvx.alen, ?_⟩)
      | (refine ⟨_, h1, ?_⟩)
      | (refine ⟨_, h2, ?_⟩)
      | (refine ⟨_, h3, ?_⟩)
      | (refine ⟨_, h4, ?_⟩)
      | (refine ⟨fun _ => ?_, fun _ => ?_⟩ <;> first | (exfalso; omega) | skip)
      | fail
    refine (eqInts_spec (by omega) (hvx.ints i hi2) (hwx.ints i hi2) (hgl i hi2)).mono ?_
    rw [decide_eq_true rfl]
    rintro r H2 ⟨rfl, k2⟩
    repeat' first
      | refine CO.cons rfl ?_
      | refine CO.nil ?_
      | refine CV.region callees ?_
      | refine CV.cond ?_
      | refine CV.skip ?_
      | refine CH.cons rfl ?_
      | refine CH.nil ?_
      | refine ⟨(⟨by omega, by omega⟩ : inI64 _), ?_⟩
      | fail
    refine ⟨(i + 1), (by repeat' first | exact trivial | refine ⟨rfl, ?_⟩ | refine ⟨slot_int (by (try simp only [Int.toNat_natCast]); omega), ?_⟩), (by (try dsimp only); omega), ?_⟩
    exact ⟨by omega, kx.trans k2⟩
  obtain rfl : i = gs.length := by omega
  repeat' first
    | refine CO.cons rfl ?_
    | refine CO.nil ?_
    | refine CV.seq ?_
    | refine CV.region callees ?_
    | refine CV.cond ?_
    | refine CV.exit ?_
    | refine CV.ret ?_
    | (refine ⟨_, hvx.alen, ?_⟩)
    | (refine ⟨fun _ => ?_, fun _ => ?_⟩ <;> first | (exfalso; omega) | skip)
    | fail
  exact ⟨rfl, rfl, kx⟩
end Go.Proofs.Ytijimplcjaeneaa

