/- Several texts in one. -/
import Derived.Test.YtglkphjjinmgmaaL1
set_option linter.unusedVariables false
set_option linter.unusedSimpArgs false

/- Choices that grow: the closure that calls itself. -/
namespace Go.AI
theorem append_cut {P : Program} {t e : TypeId} {z : Value} {by' : Nat} {H : Heap} (ht : P.underlying t = some (.slice e)) (h1 : oneBB P e = some (z, by')) (hb : by' ≤ 16) {b b' : Nat} {cs rest news : List Value} {e' : TypeId} {k : Nat} (hx : H.get b = some (.cells (cs ++ rest) e 2)) (hr : 0 < rest.length) (hy : H.get b' = some (.cells news e' k)) (hn0 : 0 < news.length) (hn : cs.length + news.length ≤ 1000000) :
    aappend P H #[t, t] (.slice (some ⟨b, 0, none⟩) cs.length 0) (.slice (some ⟨b', 0, none⟩) news.length 0) = some (.slice (some ⟨H.n, 0, none⟩) (cs.length + news.length) 0, (H.set b .gone).new (.cells (cs ++ news) e 2), b) := by
  obtain ⟨info, hi, hz, hs, hc, hsc, hby⟩ := oneBB_spec h1
  have hmul : (cs.length + news.length) * info.bytes ≤ 1000000 * 16 := Nat.mul_le_mul hn (by omega)
  simp only [aappend, ht, hi, hz, hc, hs, sourceOf, hy, hx]
  have hl : ¬ news.length = 0 := by omega
  rw [if_neg (by simp), if_neg (by simp), if_pos (by simp)]
  simp only [hl, if_false, Nat.mul_one, List.drop_zero, List.take_length, Nat.zero_add]
  rw [if_neg (by simp), if_neg (by rw [List.length_append]; omega), if_pos ⟨trivial, by rw [List.length_append]; omega, by show cs.length + news.length ≤ 9223372036854775807; omega, by omega⟩, List.take_left]
  rfl
end Go.AI
namespace Go.Proofs.Ytglkphjjinmgmaa
open Go.AI
/-- A row of numbers at the beginning of a block of one's own. -/
def PreQ (b0 : Nat) (H : Heap) (q : Value) (c : List Int) : Prop :=
  (q = nilS ∧ c = []) ∨ ∃ b rest, q = .slice (some ⟨b, 0, none⟩) c.length 0 ∧ b0 ≤ b ∧ b < H.n ∧ H.get b = some (.cells (c.map VJ ++ rest) 3 2)
theorem PreQ.ints {b0 : Nat} {H : Heap} {q : Value} {c : List Int} (h : PreQ b0 H q c) : Ints H q c := by
  rcases h with ⟨rfl, rfl⟩ | ⟨b, rest, rfl, h1, h2, h3⟩
  · exact .inl ⟨rfl, rfl⟩
  · refine .inr (.inr ⟨b, 0, 0, c.map VJ ++ rest, 3, 2, by rw [List.length_map], h2, h3, by decide, by simp, fun j w hj => ?_⟩)
    rw [Nat.zero_add]
    have hl : j < (c.map VJ).length := (List.getElem?_eq_some_iff.1 hj).1
    rw [List.getElem?_append_left hl]; exact hj
theorem PreQ.keep {b0 : Nat} {H H' : Heap} {q : Value} {c : List Int} (h : PreQ b0 H q c) (hn : H.n ≤ H'.n) (hk : ∀ p, b0 ≤ p → p < H.n → H.get p ≠ none → blkOf q = some p → H'.get p = H.get p) : PreQ b0 H' q c := by
  rcases h with h | ⟨b, rest, rfl, h1, h2, h3⟩
  · exact .inl h
  · exact .inr ⟨b, rest, rfl, h1, by omega, by rw [hk b h1 h2 (by rw [h3]; exact fun h => by cases h) rfl]; exact h3⟩
theorem PreQ.one {b0 : Nat} {H : Heap} {q : Value} {c : List Int} (h : PreQ b0 H q c) : AI.oneC q = true := by
  rcases h with ⟨rfl, _⟩ | ⟨_, _, rfl, _⟩ <;> rfl
theorem PreQ.lt {b0 : Nat} {H : Heap} {q : Value} {c : List Int} (h : PreQ b0 H q c) {p : Nat} (hp : blkOf q = some p) : b0 ≤ p ∧ p < H.n := by
  rcases h with ⟨rfl, _⟩ | ⟨b, _, rfl, h1, h2, _⟩
  · cases hp
  · cases hp; exact ⟨h1, h2⟩
/-- One more number; the old row is gone. -/
theorem pre_push {B b0 : Nat} {K : Value → Heap → Prop} {H : Heap} {q : Value} {c : List Int} {y : Int} (h : PreQ b0 H q c) (hB : B ≤ b0) (hb : b0 ≤ H.n) (hn : c.length < 1000)
    (hk : ∀ r H', PreQ b0 H' r (c ++ [y]) → (∀ p, p < H.n → blkOf q ≠ some p → H'.get p = H.get p) → H.n ≤ H'.n → K r H') :
    ∃ v H' b, aappend Try.prog (H.new (.cells [VJ y] 3 2)) #[33, 33] q (.slice (some ⟨H.n, 0, none⟩) 1 0) = some (v, H', b) ∧ B ≤ b ∧ K v H' := by
  have hy : (H.new (.cells [VJ y] 3 2)).get H.n = some (.cells [VJ y] 3 2) := Heap.get_new_eq _ _
  rcases h with ⟨rfl, rfl⟩ | ⟨b, rest, rfl, h2, h3, h4⟩
  · refine ⟨_, _, _, append_nil un22 one3 (by decide) (news := [VJ y]) hy (by simp) (by simp), ?_, hk _ _ (.inr ⟨H.n + 1, [], rfl, ?_, ?_, Heap.get_new_eq _ _⟩) ?_ ?_⟩
    · show B ≤ H.n + 1; omega
    · show b0 ≤ H.n + 1; omega
    · show H.n + 1 < H.n + 1 + 1; omega
    · intro p hp _
      rw [Heap.get_new_ne _ _ (by show p ≠ H.n + 1; omega), Heap.get_new_ne _ _ (by omega)]
    · show H.n ≤ H.n + 1 + 1; omega
  · have hx : (H.new (.cells [VJ y] 3 2)).get b = some (.cells (c.map VJ ++ rest) 3 2) := by rw [Heap.get_new_ne _ _ (by omega)]; exact h4
    have key : aappend Try.prog (H.new (.cells [VJ y] 3 2)) #[33, 33] (.slice (some ⟨b, 0, none⟩) c.length 0) (.slice (some ⟨H.n, 0, none⟩) 1 0) = some (.slice (some ⟨(H.new (.cells [VJ y] 3 2)).n, 0, none⟩) (c.length + 1) 0, ((H.new (.cells [VJ y] 3 2)).set b .gone).new (.cells (c.map VJ ++ [VJ y]) 3 2), b) := by
      by_cases hr : 0 < rest.length
      · have := append_cut un22 one3 (by decide) (news := [VJ y]) hx hr hy (by simp) (by simp; omega)
        simpa using this
      · obtain rfl : rest = [] := List.length_eq_zero_iff.1 (by omega)
        rw [List.append_nil] at hx
        have := append_row un22 one3 (by decide) (news := [VJ y]) hx hy (by simp) (by simp; omega)
        simpa using this
    refine ⟨_, _, _, key, by omega, hk _ _ (.inr ⟨H.n + 1, [], ?_, ?_, ?_, ?_⟩) ?_ ?_⟩
    · rw [List.length_append, List.length_singleton]; rfl
    · show b0 ≤ H.n + 1; omega
    · show H.n + 1 < H.n + 1 + 1; omega
    · rw [List.append_nil, List.map_append]; exact Heap.get_new_eq _ _
    · intro p hp hne
      have hne' : b ≠ p := fun h => hne (by rw [h]; rfl)
      rw [Heap.get_new_ne _ _ (by show p ≠ H.n + 1; omega), Heap.get_set_ne _ _ hne', Heap.get_new_ne _ _ (by omega)]
    · show H.n ≤ H.n + 1 + 1; omega
/-- The last number off again. -/
theorem pre_slice {b0 : Nat} {H : Heap} {q : Value} {c : List Int} {y : Int} (h : PreQ b0 H q (c ++ [y])) : ∃ r, aslice Try.prog 33 q none (some (some (VJ c.length))) = some r ∧ PreQ b0 H r c ∧ blkOf r = blkOf q := by
  rcases h with ⟨_, h⟩ | ⟨b, rest, rfl, h1, h2, h3⟩
  · simp at h
  · refine ⟨.slice (some ⟨b, 0, none⟩) c.length 0, ?_, .inr ⟨b, VJ y :: rest, rfl, h1, h2, by rw [h3, List.map_append]; simp⟩, rfl⟩
    simp only [aslice, un22, sz3, bound]
    rw [if_pos ⟨by omega, by omega, by rw [List.length_append, List.length_singleton]; omega⟩, if_pos trivial]
    simp
end Go.Proofs.Ytglkphjjinmgmaa



/- Choices that grow: the closure that calls itself. -/
namespace Go.Proofs.Ytglkphjjinmgmaa
open Go.AI
abbrev ieT : TypeId := 77
abbrev grT : TypeId := 129
theorem agIe : isAggB Try.prog ieT = some false := by kernel_rfl
theorem agGr : isAggB Try.prog grT = some false := by kernel_rfl
theorem szGr : sizeB Try.prog grT = some 1 := by kernel_rfl
theorem sz22k : sizeB Try.prog 33 = some 1 := by kernel_rfl
theorem zcGr : zeroCellsW Try.prog grT = some [.nilFunc] := by kernel_rfl
theorem zc22k : zeroCells Try.prog 33 = some [nilS] := by kernel_rfl
abbrev ieV (bf bb b1 b2 : Nat) : Value := .func (.func 86) #[] #[pt bf, pt bb, pt b1, pt b2]
abbrev growV (b0 : Nat) : Value := .func (.func 100) #[] #[pt (b0 + 1), pt (b0 + 2), pt b0, pt (b0 + 3)]
/-- What the closure has captured. -/
structure Gs (b0 n : Nat) (ie : Value) (X : Heap) (q : Value) : Prop where
  n : X.get b0 = some (.cells [VJ n] 3 1)
  e : X.get (b0 + 1) = some (.cells [ie] ieT 1)
  c : X.get (b0 + 2) = some (.cells [q] 33 1)
  g : X.get (b0 + 3) = some (.cells [growV b0] grT 1)
/-- What is left in the variable. -/
def PostG (b0 : Nat) (X : Heap) (q : Value) (c : List Int) (r : Value) : Option (List Int) → Prop
  | none => r = .bool false ∧ PreQ (b0 + 4) X q c
  | some s => r = .bool true ∧ PreQ (b0 + 4) X q s
set_option maxHeartbeats 16000000 in
set_option maxRecDepth 100000 in
theorem grow_spec {B b0 n bf bb b1 b2 : Nat} {En : List Int → Bool} (J : Heap → Prop) (hBb : B ≤ b0) (hn : n ≤ 12)
    (hJ : ∀ X X', J X → X.n ≤ X'.n → (∀ p, p < b0 → X'.get p = X.get p) → J X')
    (hE : ∀ q c X, J X → Ints X q c → Asc n 0 c → B ≤ X.n → b0 + 4 ≤ X.n → CallB Try.prog B 86 [q, pt bf, pt bb, pt b1, pt b2] X (fun r X' => r = .bool (En c) ∧ J X' ∧ X.n ≤ X'.n ∧ ∀ p, b0 ≤ p → p < X.n → X'.get p = X.get p)) :
    ∀ (m : Nat) (c : List Int) (f : Nat) (X : Heap) (q : Value), m ≤ 12 → J X → Gs b0 n (ieV bf bb b1 b2) X q → PreQ (b0 + 4) X q c → f ≤ n → Asc n 0 c → (∀ x ∈ c, x < (f : Int)) → B ≤ X.n → b0 + 4 ≤ X.n →
    CallB Try.prog B 100 [VJ f, VJ m, pt (b0 + 1), pt (b0 + 2), pt b0, pt (b0 + 3)] X
      (fun r X' => J X' ∧ X.n ≤ X'.n ∧ ∃ q', Gs b0 n (ieV bf bb b1 b2) X' q' ∧ PostG b0 X' q' c r (tryG En n m c f)) := by
  intro m
  induction m with
  | zero =>
    intro c f X q hm12 hJX hG hP hfn ha hcf hBX hbX
    refine CV.enter callees false rfl Try.func100 rfl (by kernel_rfl) (Nat.le_of_ble_eq_true rfl) hBX ?_
    repeat' first
      | refine CO.cons rfl ?_
      | refine CO.nil ?_
      | refine CV.seq ?_
      | refine CV.region callees ?_
      | refine CV.cond ?_
      | (refine ⟨_, cell_load agIe hG.e rfl, ?_⟩)
      | (refine ⟨_, cell_load ag22 hG.c rfl, ?_⟩)
      | (refine ⟨fun _ => ?_, fun _ => ?_⟩ <;> first | (exfalso; omega) | skip)
      | fail
    refine (hE q c X hJX hP.ints ha hBX hbX).mono ?_
    rintro r X1 ⟨rfl, hJ1, l1, g1⟩
    repeat' first
      | refine CO.cons rfl ?_
      | refine CO.nil ?_
      | refine CV.ret ?_
      | fail
    have hG1 : Gs b0 n (ieV bf bb b1 b2) X1 q := ⟨(g1 _ (by omega) (by omega)).trans hG.n, (g1 _ (by omega) (by omega)).trans hG.e, (g1 _ (by omega) (by omega)).trans hG.c, (g1 _ (by omega) (by omega)).trans hG.g⟩
    have hP1 : PreQ (b0 + 4) X1 q c := hP.keep l1 fun p u1 u2 _ _ => g1 p (by omega) u2
    refine ⟨rfl, hJ1, l1, q, hG1, ?_⟩
    rw [tryG]
    cases he : En c with
    | true => exact ⟨rfl, hP1⟩
    | false => exact ⟨rfl, hP1⟩
  | succ m ih =>
    intro c f X q hm12 hJX hG hP hfn ha hcf hBX hbX
    have hcl := asc_len (Nat.zero_le _) ha
    obtain ⟨F, hF⟩ : ∃ F : Nat → Option (List Int), F = fun (j : Nat) => tryG En n m (c ++ [(j : Int)]) (j + 1) := ⟨_, rfl⟩
    have hT : tryG En n (m + 1) c f = loopG F (n - f) f := by rw [tryG, hF]
    rw [hT]
    refine CV.enter callees false rfl Try.func100 rfl (by kernel_rfl) (Nat.le_of_ble_eq_true rfl) hBX ?_
    repeat' first
      | refine CO.cons rfl ?_
      | refine CO.nil ?_
      | refine CV.seq ?_
      | refine CV.region callees ?_
      | refine CV.cond ?_
      | refine CV.block ?_
      | refine CV.skip ?_
      | (refine ⟨fun _ => ?_, fun _ => ?_⟩ <;> first | (exfalso; omega) | skip)
      | fail
    refine CV.loopc ?_
    refine WCv.rounds callees false (α := Nat × Value) (fun (i, q) => [(0, VJ f), (1, VJ ((m + 1 : Nat) : Int)), (2, pt (b0 + 1)), (3, pt (b0 + 2)), (4, pt b0), (5, pt (b0 + 3)), (9, VJ i)]) (fun (i, q) Hz => f ≤ i ∧ i ≤ n ∧ J Hz ∧ Gs b0 n (ieV bf bb b1 b2) Hz q ∧ PreQ (b0 + 4) Hz q c ∧ X.n ≤ Hz.n ∧ loopG F (n - i) i = loopG F (n - f) f) (fun (i, q) => n - i) (f, q) (by repeat' first | exact trivial | refine ⟨rfl, ?_⟩ | refine ⟨slot_int (by (try simp only [Int.toNat_natCast]); omega), ?_⟩) ?_ ?_
    · exact ⟨Nat.le_refl _, hfn, hJX, hG, hP, Nat.le_refl _, rfl⟩
    clear hJX hG hP q
    rintro ⟨i, q⟩ Hx ⟨hfi, hin, hJx, hG, hP, lx, heq⟩ hBx
    by_cases hi2 : i < n
    · repeat' first
        | refine CO.cons rfl ?_
        | refine CO.nil ?_
        | refine CV.seq ?_
        | refine CV.region callees ?_
        | refine CV.cond ?_
        | refine CV.block ?_
        | refine CV.skip ?_
        | (refine ⟨_, cell_load ag3 hG.n rfl, ?_⟩)
        | (refine ⟨_, cell_load ag22 hG.c rfl, ?_⟩)
        | (refine ⟨_, _, build_one un22 one3 rfl, ?_⟩)
        | (refine ⟨fun _ => ?_, fun _ => ?_⟩ <;> first | (exfalso; omega) | skip)
        | fail
      refine pre_push hP (by omega) (by omega) (by omega) ?_
      intro q1 X1 hP1 hk1 l1
      have hqn : ∀ p, p < b0 + 4 → X1.get p = Hx.get p := fun p hp => hk1 p (by omega) (fun e => by have := (hP.lt e).1; omega)
      repeat' first
        | refine CO.cons rfl ?_
        | fail
      refine ⟨_, _, var_store sz22k ((hqn (b0 + 2) (by omega)).trans hG.c) hP1.one, by omega, ?_⟩
      generalize hs2 : Heap.set X1 (b0 + 2) _ = X2
      have hg2 : X2.get (b0 + 2) = some (.cells [q1] 33 1) := set_get hs2
      have n2 := set_n hs2
      have o2 := set_old hs2
      have hG2 : Gs b0 n (ieV bf bb b1 b2) X2 q1 := ⟨(o2 _ (by omega)).trans ((hqn _ (by omega)).trans hG.n), (o2 _ (by omega)).trans ((hqn _ (by omega)).trans hG.e), hg2, (o2 _ (by omega)).trans ((hqn _ (by omega)).trans hG.g)⟩
      have hJ2 : J X2 := hJ Hx X2 hJx (by omega) fun p hp => (o2 p (by omega)).trans (hqn p (by omega))
      have hP2 : PreQ (b0 + 4) X2 q1 (c ++ [(i : Int)]) := hP1.keep (by omega) fun p u1 u2 _ _ => o2 p (by omega)
      have hci : ∀ x ∈ c, x < (i : Int) := fun x hx => by have := hcf x hx; omega
      have hih := ih (c ++ [(i : Int)]) (i + 1) X2 q1 (by omega) hJ2 hG2 hP2 (by omega) (asc_snoc ha (Nat.zero_le _) hi2 hci) (fun x hx => by
        rcases List.mem_append.1 hx with h | h
        · have := hci x h; omega
        · rw [List.mem_singleton] at h; omega) (by omega) (by omega)
      rw [show ((i + 1 : Nat) : Int) = (i : Int) + 1 by omega, show (m : Int) = ((m + 1 : Nat) : Int) - 1 by omega] at hih
      repeat' first
        | refine CO.cons rfl ?_
        | refine CO.nil ?_
        | refine CV.seq ?_
        | refine CV.region callees ?_
        | refine ⟨(⟨by omega, by omega⟩ : inI64 _), ?_⟩
        | (refine ⟨_, cell_load agGr hG2.g rfl, ?_⟩)
        | fail
      refine hih.mono ?_
      rintro r X3 ⟨hJ3, l3, q3, hG3, hm3⟩
      have hFi : F i = tryG En n m (c ++ [(i : Int)]) (i + 1) := by rw [hF]
      rw [← hFi] at hm3
      have en : n - i = (n - (i + 1)) + 1 := by omega
      rw [en] at heq
      cases hFv : F i with
      | some s =>
        rw [hFv] at hm3
        obtain ⟨rfl, hP3⟩ := hm3
        rw [loopG_hit hFv] at heq
        repeat' first
          | refine CO.cons rfl ?_
          | refine CO.nil ?_
          | refine CV.seq ?_
          | refine CV.region callees ?_
          | refine CV.cond ?_
          | refine CV.ret ?_
          | fail
        refine ⟨rfl, hJ3, by omega, q3, hG3, ?_⟩
        rw [← heq]
        exact ⟨rfl, hP3⟩
      | none =>
        rw [hFv] at hm3
        obtain ⟨rfl, hP3⟩ := hm3
        rw [loopG_step hFv] at heq
        have hI3 : Ints X3 q3 (c ++ [(i : Int)]) := hP3.ints
        have el : (((c ++ [(i : Int)]).length : Nat) : Int) - 1 = (c.length : Int) := by rw [List.length_append, List.length_singleton]; omega
        obtain ⟨r4, hr4, hP4, hb4⟩ := pre_slice hP3
        have hl2 : (c ++ [(i : Int)]).length = c.length + 1 := by rw [List.length_append, List.length_singleton]
        repeat' first
          | refine CO.cons rfl ?_
          | refine CO.nil ?_
          | refine CV.region callees ?_
          | refine CV.cond ?_
          | refine CV.skip ?_
          | refine ⟨_, ints_len (by assumption), ?_⟩
          | refine ⟨(⟨by omega, by omega⟩ : inI64 _), ?_⟩
          | (refine ⟨_, cell_load ag22 hG3.c rfl, ?_⟩)
          | fail
        rw [el]
        refine ⟨_, hr4, ?_⟩
        repeat' first
          | refine CO.cons rfl ?_
          | fail
        refine ⟨_, _, var_store sz22k hG3.c hP4.one, by omega, ?_⟩
        generalize hs5 : Heap.set X3 (b0 + 2) _ = X5
        have hg5 : X5.get (b0 + 2) = some (.cells [r4] 33 1) := set_get hs5
        have n5 := set_n hs5
        have o5 := set_old hs5
        repeat' first
          | refine CO.cons rfl ?_
          | refine CO.nil ?_
          | refine CV.region callees ?_
          | refine ⟨(⟨by omega, by omega⟩ : inI64 _), ?_⟩
          | fail
        refine ⟨(i + 1, r4), (by repeat' first | exact trivial | refine ⟨rfl, ?_⟩ | refine ⟨slot_int (by (try simp only [Int.toNat_natCast]); omega), ?_⟩), (by (try dsimp only); omega), ?_⟩
        exact ⟨by omega, by omega, hJ X3 X5 hJ3 (by omega) (fun p hp => o5 p (by omega)), ⟨(o5 _ (by omega)).trans hG3.n, (o5 _ (by omega)).trans hG3.e, hg5, (o5 _ (by omega)).trans hG3.g⟩, hP4.keep (by omega) (fun p u1 u2 _ _ => o5 p (by omega)), by omega, heq⟩
    obtain rfl : i = n := by omega
    repeat' first
      | refine CO.cons rfl ?_
      | refine CO.nil ?_
      | refine CV.seq ?_
      | refine CV.region callees ?_
      | refine CV.cond ?_
      | refine CV.exit ?_
      | refine CV.ret ?_
      | (refine ⟨_, cell_load ag3 hG.n rfl, ?_⟩)
      | (refine ⟨fun _ => ?_, fun _ => ?_⟩ <;> first | (exfalso; omega) | skip)
      | fail
    refine ⟨rfl, hJx, lx, q, hG, ?_⟩
    rw [← heq, Nat.sub_self]
    exact ⟨rfl, hP⟩
end Go.Proofs.Ytglkphjjinmgmaa



/- The fewest coals that are enough. -/
namespace Go.Proofs.Ytglkphjjinmgmaa
open Go.AI
set_option maxHeartbeats 16000000 in
set_option maxRecDepth 100000 in
theorem fewest_spec {B n bf bb b1 b2 : Nat} {H : Heap} {En : List Int → Bool} (J : Heap → Prop) (hB : B ≤ H.n) (hn : n ≤ 12)
    (hJ : ∀ X X', J X → X.n ≤ X'.n → (∀ p, p < H.n → X'.get p = X.get p) → J X')
    (hE : ∀ q c X, J X → Ints X q c → Asc n 0 c → B ≤ X.n → H.n + 4 ≤ X.n → CallB Try.prog B 86 [q, pt bf, pt bb, pt b1, pt b2] X (fun r X' => r = .bool (En c) ∧ J X' ∧ X.n ≤ X'.n ∧ ∀ p, H.n ≤ p → p < X.n → X'.get p = X.get p))
    (hJ0 : J H) :
    CallB Try.prog B 85 [VJ n, ieV bf bb b1 b2] H (fun r X' => J X' ∧ H.n ≤ X'.n ∧ match fewG En n with
      | none => r = .tuple #[nilS, .bool false]
      | some s => ∃ q, r = .tuple #[q, .bool true] ∧ PreQ (H.n + 4) X' q s) := by
  refine CV.enter callees false rfl Try.func85 rfl (by kernel_rfl) (Nat.le_of_ble_eq_true rfl) hB ?_
  repeat' first
    | refine CO.cons rfl ?_
    | refine CV.seq ?_
    | refine CV.region callees ?_
    | refine ⟨(rfl : notTuple (Value.int _ _) = true), ?_⟩
    | fail
  generalize hs0' : anew H _ _ _ = H0
  have hs0 : H.new (.cells [VJ n] 3 1) = H0 := hs0'
  have hg0 := new_get hs0
  have k0 := new_keep hs0
  have n0 := new_n hs0
  obtain ⟨b0, hb0⟩ : ∃ b, H.n = b := ⟨_, rfl⟩
  rw [hb0] at hg0 n0 ⊢
  refine ⟨(by rfl), ?_⟩
  generalize hs1' : anew H0 _ _ _ = H1
  have hs1 : H0.new (.cells [ieV bf bb b1 b2] ieT 1) = H1 := hs1'
  have hg1 := new_get hs1
  have k1 := new_keep hs1
  have n1 := new_n hs1
  rw [n0] at hg1 ⊢
  repeat' first
    | refine CO.cons rfl ?_
    | refine CO.nil ?_
    | refine CV.seq ?_
    | refine CV.region callees ?_
    | fail
  refine ⟨_, _, alloc_of zc22k, ?_⟩
  generalize hs2 : Heap.new H1 _ = H2
  have hg2 := new_get hs2
  have k2 := new_keep hs2
  have n2 := new_n hs2
  rw [show H1.n = b0 + 2 by omega] at hg2 ⊢
  repeat' first
    | refine CO.cons rfl ?_
    | refine CO.nil ?_
    | refine CV.seq ?_
    | refine CV.region callees ?_
    | fail
  refine ⟨_, _, alloc_ofW zcGr, ?_⟩
  generalize hs3 : Heap.new H2 _ = H3
  have hg3 := new_get hs3
  have k3 := new_keep hs3
  have n3 := new_n hs3
  rw [show H2.n = b0 + 3 by omega] at hg3 ⊢
  repeat' first
    | refine CO.cons rfl ?_
    | refine CO.nil ?_
    | refine CV.seq ?_
    | refine CV.region callees ?_
    | (refine ⟨(rfl : List.all _ cellLike = true), ?_⟩)
    | fail
  refine ⟨_, _, var_store szGr hg3 rfl, by omega, ?_⟩
  generalize hs4 : Heap.set H3 (b0 + 3) _ = H4
  have hg4 : H4.get (b0 + 3) = some (.cells [growV b0] grT 1) := set_get hs4
  have n4 := set_n hs4
  have o4 := set_old hs4
  have h40 := (o4 b0 (by omega)).trans ((k3.2 b0 (by omega)).trans ((k2.2 b0 (by omega)).trans ((k1.2 b0 (by omega)).trans hg0)))
  have h41 := (o4 (b0 + 1) (by omega)).trans ((k3.2 (b0 + 1) (by omega)).trans ((k2.2 (b0 + 1) (by omega)).trans hg1))
  have h42 := (o4 (b0 + 2) (by omega)).trans ((k3.2 (b0 + 2) (by omega)).trans hg2)
  have hG4 : Gs b0 n (ieV bf bb b1 b2) H4 nilS := ⟨h40, h41, h42, hg4⟩
  rw [hb0] at hJ hE
  have hJ4 : J H4 := hJ H H4 hJ0 (by omega) fun p hp => (o4 p (by omega)).trans ((k3.2 p (by omega)).trans ((k2.2 p (by omega)).trans ((k1.2 p (by omega)).trans (k0.2 p (by omega)))))
  obtain ⟨F, hF⟩ : ∃ F : Nat → Option (List Int), F = fun (s : Nat) => tryG En n s [] 0 := ⟨_, rfl⟩
  have hT : fewG En n = loopG F (n + 1) 0 := by rw [fewG, hF]
  rw [hT]
  repeat' first
    | refine CO.cons rfl ?_
    | refine CO.nil ?_
    | refine CV.seq ?_
    | refine CV.region callees ?_
    | refine CV.block ?_
    | refine ⟨(⟨by omega, by omega⟩ : inI64 _), ?_⟩
    | (refine ⟨_, cell_load ag3 h40 rfl, ?_⟩)
    | fail
  refine CV.loopc ?_
  refine WCv.rounds callees false (α := Nat × Value) (fun (i, q) => [(2, pt b0), (3, pt (b0 + 1)), (6, pt (b0 + 2)), (7, pt (b0 + 3)), (11, VJ ((n : Int) + 1)), (12, VJ i)]) (fun (i, q) Hz => i ≤ n + 1 ∧ J Hz ∧ Gs b0 n (ieV bf bb b1 b2) Hz q ∧ PreQ (b0 + 4) Hz q [] ∧ H4.n ≤ Hz.n ∧ loopG F (n + 1 - i) i = loopG F (n + 1) 0) (fun (i, q) => n + 1 - i) (0, nilS) (by repeat' first | exact trivial | refine ⟨rfl, ?_⟩ | refine ⟨slot_int (by (try simp only [Int.toNat_natCast]); omega), ?_⟩) ?_ ?_
  · exact ⟨by omega, hJ4, hG4, .inl ⟨rfl, rfl⟩, Nat.le_refl _, rfl⟩
  rintro ⟨i, q⟩ Hx ⟨hin, hJx, hG, hP, lx, heq⟩ hBx
  by_cases hi2 : i < n + 1
  · have hih := grow_spec (B := B) (b0 := b0) (n := n) (bf := bf) (bb := bb) (b1 := b1) (b2 := b2) (En := En) J (by omega) hn hJ hE i [] 0 Hx q (by omega) hJx hG hP (Nat.zero_le _) trivial (fun x hx => by cases hx) (by omega) (by omega)
    repeat' first
      | refine CO.cons rfl ?_
      | refine CO.nil ?_
      | refine CV.seq ?_
      | refine CV.region callees ?_
      | refine CV.cond ?_
      | refine CV.block ?_
      | refine CV.skip ?_
      | (refine ⟨_, cell_load agGr hG.g rfl, ?_⟩)
      | (refine ⟨fun _ => ?_, fun _ => ?_⟩ <;> first | (exfalso; omega) | skip)
      | fail
    refine hih.mono ?_
    rintro r X3 ⟨hJ3, l3, q3, hG3, hm3⟩
    have hFi : F i = tryG En n i [] 0 := by rw [hF]
    rw [← hFi] at hm3
    have en : n + 1 - i = (n + 1 - (i + 1)) + 1 := by omega
    rw [en] at heq
    cases hFv : F i with
    | some s =>
      rw [hFv] at hm3
      obtain ⟨rfl, hP3⟩ := hm3
      rw [loopG_hit hFv] at heq
      repeat' first
        | refine CO.cons rfl ?_
        | refine CO.nil ?_
        | refine CV.seq ?_
        | refine CV.region callees ?_
        | refine CV.cond ?_
        | refine CV.ret ?_
        | (refine ⟨_, cell_load ag22 hG3.c rfl, ?_⟩)
        | fail
      rw [← heq]
      have hnt : notTuple q3 = true := by rcases hP3 with ⟨rfl, _⟩ | ⟨_, _, rfl, _⟩ <;> rfl
      exact ⟨by simp only [List.all_cons, List.all_nil, hnt]; rfl, hJ3, by omega, q3, rfl, hP3⟩
    | none =>
      rw [hFv] at hm3
      obtain ⟨rfl, hP3⟩ := hm3
      rw [loopG_step hFv] at heq
      repeat' first
        | refine CO.cons rfl ?_
        | refine CO.nil ?_
        | refine CV.region callees ?_
        | refine CV.cond ?_
        | refine CV.skip ?_
        | refine ⟨(⟨by omega, by omega⟩ : inI64 _), ?_⟩
        | fail
      refine ⟨(i + 1, q3), (by repeat' first | exact trivial | refine ⟨rfl, ?_⟩ | refine ⟨slot_int (by (try simp only [Int.toNat_natCast]); omega), ?_⟩), (by (try dsimp only); omega), ?_⟩
      exact ⟨by omega, hJ3, hG3, hP3, by omega, heq⟩
  obtain rfl : i = n + 1 := by omega
  repeat' first
    | refine CO.cons rfl ?_
    | refine CO.nil ?_
    | refine CV.seq ?_
    | refine CV.region callees ?_
    | refine CV.cond ?_
    | refine CV.exit ?_
    | refine CV.ret ?_
    | (refine ⟨fun _ => ?_, fun _ => ?_⟩ <;> first | (exfalso; omega) | skip)
    | fail
  rw [← heq, Nat.sub_self]
  exact ⟨rfl, hJx, by omega, rfl⟩
end Go.Proofs.Ytglkphjjinmgmaa



/- Lay. -/
namespace Go.Proofs.Ytglkphjjinmgmaa
open Go.AI
set_option maxHeartbeats 16000000 in
set_option maxRecDepth 100000 in
theorem lay_spec {B : Nat} {H : Heap} {k : Ke} {cv tv pv : Value} {cs : List Co} {ts : List (Int × Int)} {ps : List Po} {fr to : Nat} (hB : B ≤ H.n)
    (hk : KOk k) (hc : RowS 7 H cv (cs.map Col)) (ht : RowS 2 H tv (ts.map Hl)) (hp : RowS 3 H pv (ps.map Pol)) (ho : POk k.wa ps) (hpv : sameFix pv pv = true) (hf : FOk cs ts) (h8 : cs.length ≤ 8) (hm0 : fr ≤ to) (hm1 : to ≤ 300) :
    CallB Try.prog B 43 [Kev k, Fv cv tv, pv, VJ fr, VJ to] H (fun r X' => Keep H X' ∧ match fewG (enB k cs ts ps fr to) cs.length with
      | none => r = .tuple #[nilS, VJ 7]
      | some s => ∃ q, r = .tuple #[q, VJ 0] ∧ Ints X' q s) := by
  obtain ⟨B0, h0⟩ := isBeg_ex (e := 0) hf
  obtain ⟨B1, h1⟩ := isBeg_ex (e := 1) hf
  refine CV.enter callees false rfl Try.func43 rfl (by kernel_rfl) (Nat.le_of_ble_eq_true rfl) hB ?_
  repeat' first
    | refine CO.cons rfl ?_
    | refine CV.seq ?_
    | refine CV.region callees ?_
    | fail
  refine ⟨(by simp only [notTuple]), ?_⟩
  rw [boxKe]
  generalize hs0 : Heap.new H _ = H0
  have hg0 := new_get hs0
  have k0 := new_keep hs0
  have n0 := new_n hs0
  obtain ⟨b0, hbn0⟩ : ∃ b, Heap.n H = b := ⟨_, rfl⟩
  rw [hbn0] at hg0 n0 ⊢
  repeat' first
    | refine CO.cons rfl ?_
    | fail
  refine ⟨(by simp only [notTuple]), ?_⟩
  rw [allocFv hc.cells.1 ht.cells.1]
  generalize hs1 : Heap.new H0 _ = H1
  have hg1 := new_get hs1
  have k1 := new_keep hs1
  have n1 := new_n hs1
  obtain ⟨b1, hbn1⟩ : ∃ b, Heap.n H0 = b := ⟨_, rfl⟩
  rw [hbn1] at hg1 n1 ⊢
  repeat' first
    | refine CO.cons rfl ?_
    | fail
  refine ⟨(rfl : notTuple (Value.int _ _) = true), ?_⟩
  generalize hs2' : anew H1 _ _ _ = H2
  have hs2 : H1.new (.cells [VJ fr] 3 1) = H2 := hs2'
  have hg2 := new_get hs2
  have k2 := new_keep hs2
  have n2 := new_n hs2
  obtain ⟨b2, hb2⟩ : ∃ b, H1.n = b := ⟨_, rfl⟩
  rw [hb2] at hg2 n2 ⊢
  repeat' first
    | refine CO.cons rfl ?_
    | fail
  refine ⟨(rfl : notTuple (Value.int _ _) = true), ?_⟩
  generalize hs3' : anew H2 _ _ _ = H3
  have hs3 : H2.new (.cells [VJ to] 3 1) = H3 := hs3'
  have hg3 := new_get hs3
  have k3 := new_keep hs3
  have n3 := new_n hs3
  obtain ⟨b3, hb3⟩ : ∃ b, H2.n = b := ⟨_, rfl⟩
  rw [hb3] at hg3 n3 ⊢
  have k03 : Keep H H3 := ((k0.trans k1).trans k2).trans k3
  have g0 := (((k1.trans k2).trans k3).2 b0 (by omega)).trans hg0
  have g1 := ((k2.trans k3).2 b1 (by omega)).trans hg1
  have g2 := (k3.2 b2 (by omega)).trans hg2
  repeat' first
    | refine CO.cons rfl ?_
    | refine CO.nil ?_
    | refine CV.seq ?_
    | refine CV.region callees ?_
    | (refine ⟨_, ld51 g0, ?_⟩)
    | (refine ⟨_, ld28 g1, ?_⟩)
    | fail
  refine (boilingOf_spec (by omega) hk (hc.keep k03) (ht.keep k03) (hp.keep k03) ho hf h0 h1).mono ?_
  rintro r H4 ⟨⟨ev, rfl, he4⟩, k4⟩
  have l4 := k4.1
  repeat' first
    | refine CO.cons rfl ?_
    | (refine ⟨_, _, al98, ?_⟩)
    | fail
  generalize hs5 : Heap.new H4 _ = H5
  have hg5 := new_get hs5
  have k5 := new_keep hs5
  have n5 := new_n hs5
  obtain ⟨b5, hbn5⟩ : ∃ b, Heap.n H4 = b := ⟨_, rfl⟩
  rw [hbn5] at hg5 n5 ⊢
  repeat' first
    | fail
  refine ⟨_, _, st98 he4.oneC hp.cells.2.1 hg5, by omega, ?_⟩
  generalize hs6 : Heap.set H5 b5 _ = H6
  have hg6 : H6.get b5 = some (.cells (Bol k ev pv) 116 1) := set_get hs6
  have n6 := set_n hs6
  have o6 := set_old hs6
  have k36 : Keep H3 H6 := keep_put (k4.trans k5) (by omega) o6 n6
  have l6 := k36.1
  have k06 := k03.trans k36
  have g16 := (k36.2 b1 (by omega)).trans g1
  have g26 := (k36.2 b2 (by omega)).trans g2
  have g36 := (k36.2 b3 (by omega)).trans hg3
  have hc6 := hc.keep k06
  repeat' first
    | refine CO.cons rfl ?_
    | refine CO.nil ?_
    | refine CV.seq ?_
    | refine CV.region callees ?_
    | refine CV.cond ?_
    | refine CV.skip ?_
    | (refine ⟨_, cell_load ag3 g26 rfl, ?_⟩)
    | (refine ⟨fun _ => ?_, fun _ => ?_⟩ <;> first | (exfalso; omega) | skip)
    | fail
  refine (isWithin_spec (by omega)).mono ?_
  rintro r H7 ⟨rfl, rfl⟩
  rw [decide_eq_true (show (0 : Int) ≤ (fr : Int) ∧ (fr : Int) ≤ 300 by omega)]
  repeat' first
    | refine CO.cons rfl ?_
    | refine CO.consG rfl ?_
    | (refine ⟨_, cell_load ag3 g36 rfl, ?_⟩)
    | fail
  refine (isWithin_spec (by omega)).mono ?_
  rintro r H8 ⟨rfl, rfl⟩
  rw [decide_eq_true (show (0 : Int) ≤ (to : Int) ∧ (to : Int) ≤ 300 by omega)]
  repeat' first
    | refine CO.cons rfl ?_
    | refine CO.nil ?_
    | refine CV.seq ?_
    | refine CV.region callees ?_
    | refine CV.cond ?_
    | refine CV.skip ?_
    | refine CO.consG rfl ?_
    | (refine ⟨_, cell_load ag3 g26 rfl, ?_⟩)
    | (refine ⟨_, cell_load ag3 g36 rfl, ?_⟩)
    | (refine ⟨_, fS foF0 (by decide), ?_⟩)
    | (refine ⟨_, cell_load ag25 g16 rfl, ?_⟩)
    | (refine ⟨_, cs_len hc6, ?_⟩)
    | (refine ⟨(rfl : List.all _ cellLike = true), ?_⟩)
    | (refine ⟨fun _ => ?_, fun _ => ?_⟩ <;> first | (exfalso; omega) | skip)
    | fail
  have hK0 : Kap b1 b5 b2 b3 k cv tv pv fr to H8 := ⟨g16, ⟨ev, hg6⟩, g26, g36⟩
  refine (fewest_spec (B := B) (H := H8) (n := cs.length) (bf := b1) (bb := b5) (b1 := b2) (b2 := b3) (En := enB k cs ts ps fr to)
    (fun X => Kap b1 b5 b2 b3 k cv tv pv fr to X ∧ Keep H X ∧ H8.n ≤ X.n) (by omega) (by omega) ?_ ?_ ⟨hK0, k06, Nat.le_refl _⟩).mono ?_
  · rintro X X' ⟨⟨q1, ⟨e', q2⟩, q3, q4⟩, q5, q6⟩ hn hh
    exact ⟨⟨(hh _ (by omega)).trans q1, ⟨e', (hh _ (by omega)).trans q2⟩, (hh _ (by omega)).trans q3, (hh _ (by omega)).trans q4⟩, ⟨by have := q5.1; omega, fun p hp => (hh p (by omega)).trans (q5.2 p hp)⟩, by omega⟩
  · rintro q c X ⟨qK, q5, q6⟩ hq ha hBX hX
    refine (layF_spec (B := B) (by omega) (by omega) ⟨by omega, by omega, by omega⟩ ⟨by omega, by omega, by omega, by omega⟩ qK hk (hc.keep q5) (ht.keep q5) (hp.keep q5) ho hpv hf hq ha hm1).mono ?_
    rintro r X' ⟨rfl, qK', kx⟩
    exact ⟨rfl, ⟨qK', ⟨by have := q5.1; have := kx.1; omega, fun p hp => (kx.2 p (by omega) (by omega)).trans (q5.2 p hp)⟩, by have := kx.1; omega⟩, kx.1, fun p u1 u2 => kx.2 p u2 (by omega)⟩
  · rintro r X ⟨⟨_, qk, _⟩, _, hr⟩
    cases hfw : fewG (enB k cs ts ps fr to) cs.length with
    | none =>
      rw [hfw] at hr
      obtain rfl := hr
      repeat' first
        | refine CO.cons rfl ?_
        | refine CO.nil ?_
        | refine CV.seq ?_
        | refine CV.region callees ?_
        | refine CV.cond ?_
        | refine CV.ret ?_
        | fail
      exact ⟨rfl, qk, rfl⟩
    | some s =>
      rw [hfw] at hr
      obtain ⟨q, rfl, hP⟩ := hr
      have hnt : notTuple q = true := by rcases hP with ⟨rfl, _⟩ | ⟨_, _, rfl, _⟩ <;> rfl
      repeat' first
        | refine CO.cons rfl ?_
        | refine CO.nil ?_
        | refine CV.seq ?_
        | refine CV.region callees ?_
        | refine CV.cond ?_
        | refine CV.skip ?_
        | refine CV.ret ?_
        | fail
      exact ⟨by simp only [List.all_cons, List.all_nil, hnt]; rfl, qk, q, rfl, hP.ints⟩
end Go.Proofs.Ytglkphjjinmgmaa

