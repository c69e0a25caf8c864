
/- Rows of rows of one's own; copies; how many orders there are at most. -/
import Derived.Test.YtijimplcjaeneaaO5
import Derived.Test.Ytijimplcjaeneaah2o
set_option linter.unusedVariables false
set_option linter.unusedSimpArgs false
namespace Go.Proofs.Ytijimplcjaeneaa
open Go.AI
theorem row_shape {H : Heap} {v : Value} {vs : List Value} (h : Row H v vs) : (v = .slice none 0 0 ∧ vs = []) ∨ ∃ a n c, v = .slice (some a) n c := by
  rcases h with h | ⟨h, _⟩ | ⟨b, i, c, cs, e, k, h, _⟩
  · exact .inl h
  · exact .inr ⟨_, _, _, h⟩
  · exact .inr ⟨_, _, _, h⟩
theorem step1_nilnil {P : Program} {tm : Tm} {H : Heap} {o : Oper} {t u e : TypeId} {x y : Operand} (ht : P.underlying t = some (.slice e)) (ho : o.op = .binOp .eql t x y u) (hx : ev P tm x = some (.slice none 0 0)) (hy : ev P tm y = some (.slice none 0 0)) : step1 P tm H o = some (.bool true, H, H.n) := by
  refine step1_bin ho hx hy rfl rfl (apure_bin ho hx hy rfl rfl (by rfl) ?_ rfl)
  rw [show binOp .eql t (.slice none 0 0) (.slice none 0 0) = (do pure (.bool (← Op.equal t (.slice none 0 0) (.slice none 0 0)))) from rfl, pureRun_bind]
  rw [show pureRun P (Op.equal t (.slice none 0 0) (.slice none 0 0)) = some true by
    unfold Op.equal
    rw [show Op.maxDepth = 9999 + 1 from rfl, Op.equalIn, pureRun_bind, pureRun_underlying ht]
    rfl]
  rfl
set_option maxRecDepth 100000 in
theorem clone_spec [Orc] {B : Nat} {v : Value} {H : Heap} {xs : List Int} (hB : B ≤ H.n) (hv : Ints H v xs) (hn : xs.length < 1000000) :
    CallB Try.prog B 78 [v] H (fun r H' => Own 3 H' r (xs.map VI) H.n ∧ Keep H H') := by
  rcases row_shape hv with ⟨rfl, h0⟩ | ⟨a, n, c, rfl⟩
  · refine CV.enter callees false (Orc.hv rfl rfl) Try.func78 rfl (by kernel_rfl) (Nat.le_of_ble_eq_true rfl) hB ?_ (Orc.hw rfl rfl)
    repeat' first
      | refine CO.cons rfl ?_
      | refine CO.nil ?_
      | refine CV.seq ?_
      | refine CV.region callees ?_
      | refine CV.cond ?_
      | refine CV.ret ?_
      | (refine ⟨_, fun tm ha => step1_nilnil un22 rfl (ev_tmp ha rfl) rfl, ?_⟩)
      | fail
    exact ⟨rfl, .inl ⟨rfl, h0⟩, Keep.refl _⟩
  · refine CV.enter callees false (Orc.hv rfl rfl) Try.func78 rfl (by kernel_rfl) (Nat.le_of_ble_eq_true rfl) hB ?_ (Orc.hw rfl rfl)
    repeat' first
      | refine CO.cons rfl ?_
      | refine CO.nil ?_
      | refine CV.seq ?_
      | refine CV.region callees ?_
      | refine CV.cond ?_
      | refine CV.skip ?_
      | (refine ⟨_, fun tm ha => step1_nil rfl (ev_tmp ha rfl) rfl rfl (by simp [anil, un22]; rfl), ?_⟩)
      | (refine ⟨_, _, build_none un22 one3, ?_⟩)
      | fail
    refine copy_ask un22 one3 (by omega) hv hB (by simpa using hn) ?_
    intro r H' ho k
    repeat' first
      | refine CO.cons rfl ?_
      | refine CO.nil ?_
      | refine CV.ret ?_
      | fail
    exact ⟨by simp only [List.all_cons, List.all_nil, ho.notTuple]; rfl, ho, k⟩
theorem own_ne {e e' : TypeId} (he : e ≠ e') {H : Heap} {v v' : Value} {vs vs' : List Value} {B B' : Nat} (h : Own e H v vs B) (h' : Own e' H v' vs' B') : ∀ c, blkOf v = some c → blkOf v' ≠ some c := by
  rcases h with ⟨rfl, _⟩ | ⟨b, rfl, _, _, h4⟩
  · intro c hc; cases hc
  · rcases h' with ⟨rfl, _⟩ | ⟨b', rfl, _, _, h4'⟩
    · intro c _ hc; cases hc
    · intro c hc hc'
      cases hc; cases hc'
      rw [h4] at h4'; cases h4'; exact he rfl
abbrev iT : TypeId := 29
/-- Rows of numbers of one's own, in a row of one's own. -/
structure OwnQ (H : Heap) (q : Value) (ws : List Value) (gs : List (List Int)) (B : Nat) : Prop where
  o : Own iT H q ws B
  len : ws.length = gs.length
  i : ∀ j, j < gs.length → Own 3 H ws[j]! (gs[j]!.map VI) B
theorem OwnQ.gri {H : Heap} {q : Value} {ws : List Value} {gs : List (List Int)} {B : Nat} (h : OwnQ H q ws gs B) : Gri H q ws gs := ⟨h.o.row, h.len, fun j hj => (h.i j hj).row⟩
theorem OwnQ.nil {H : Heap} {B : Nat} : OwnQ H nilS [] [] B := ⟨.inl ⟨rfl, rfl⟩, rfl, fun j hj => absurd hj (by simp)⟩
theorem OwnQ.keep {H H' : Heap} {q : Value} {ws : List Value} {gs : List (List Int)} {B : Nat} (h : OwnQ H q ws gs B) (k : Keep H H') : OwnQ H' q ws gs B := ⟨h.o.keep k, h.len, fun j hj => (h.i j hj).keep k⟩
/-- All of its blocks stay as they are. -/
theorem OwnQ.same {H H' : Heap} {q : Value} {ws : List Value} {gs : List (List Int)} {B : Nat} (h : OwnQ H q ws gs B) (hn : H.n ≤ H'.n) (k : ∀ c, (blkOf q = some c ∨ ∃ j, j < gs.length ∧ blkOf ws[j]! = some c) → H'.get c = H.get c) : OwnQ H' q ws gs B :=
  ⟨own_keepF h.o hn fun c hc => k c (.inl hc), h.len, fun j hj => own_keepF (h.i j hj) hn fun c hc => k c (.inr ⟨j, hj, hc⟩)⟩
theorem OwnQ.lt {H : Heap} {q : Value} {ws : List Value} {gs : List (List Int)} {B : Nat} (h : OwnQ H q ws gs B) {c : Nat} (hc : blkOf q = some c ∨ ∃ j, j < gs.length ∧ blkOf ws[j]! = some c) : B ≤ c ∧ c < H.n := by
  rcases hc with hc | ⟨j, hj, hc⟩
  · exact h.o.lt hc
  · exact (h.i j hj).lt hc
theorem OwnQ.push {K : Value → Heap → Prop} {B B0 : Nat} {H : Heap} {q w : Value} {ws : List Value} {gs : List (List Int)} {g : List Int} (h : OwnQ H q ws gs B0) (hw : Own 3 H w (g.map VI) B0) (hB0 : B0 ≤ H.n) (hB : B ≤ B0) (hn : gs.length < 1000000)
    (hk : ∀ r H', OwnQ H' r (ws ++ [w]) (gs ++ [g]) B0 → KeepBut q H H' → (∀ c, blkOf r = some c → H.n ≤ c) → K r H') :
    ∃ v H' b, aappend Try.prog (H.new (.cells [w] iT 2)) #[39, 39] q (.slice (some ⟨H.n, 0, none⟩) 1 0) = some (v, H', b) ∧ B ≤ b ∧ K v H' := by
  refine append_askW unG oneN (by omega) h.o hB0 hB (by rw [h.len]; exact hn) ?_
  intro r H' ho kb hf
  refine hk r H' ⟨ho, by simp [h.len], fun j hj => ?_⟩ kb hf
  rw [List.length_append, List.length_singleton] at hj
  by_cases hj2 : j < gs.length
  · have h1 : (ws ++ [w])[j]! = ws[j]! := by
      rw [getElem!_pos _ j (by rw [List.length_append, h.len]; omega), List.getElem_append_left (by rw [h.len]; omega), getElem!_pos ws j (by rw [h.len]; omega)]
    have h2 : (gs ++ [g])[j]! = gs[j]! := by
      rw [getElem!_pos _ j (by rw [List.length_append]; omega), List.getElem_append_left hj2, getElem!_pos gs j hj2]
    rw [h1, h2]
    exact own_keepF (h.i j hj2) kb.le fun c hc => kb.get c ((h.i j hj2).lt hc).2 (own_ne (by decide) (h.i j hj2) h.o c hc)
  · obtain rfl : j = gs.length := by omega
    have h1 : (ws ++ [w])[gs.length]! = w := by
      rw [getElem!_pos _ _ (by rw [List.length_append, List.length_singleton, h.len]; omega), List.getElem_append_right (by rw [h.len]; omega)]
      simp [h.len]
    have h2 : (gs ++ [g])[gs.length]! = g := by
      rw [getElem!_pos _ _ (by rw [List.length_append, List.length_singleton]; omega), List.getElem_append_right (by omega)]
      simp
    rw [h1, h2]
    exact own_keepF hw kb.le fun c hc => kb.get c (hw.lt hc).2 (own_ne (by decide) hw h.o c hc)
/-- There are at most so many orders. -/
theorem growL_len {ls : List Lk} (h7 : ls.length ≤ 7) : ∀ {r : Nat} {pre : List Int} {o d : Int}, (growL ls r pre o d).length ≤ 7 ^ r
  | 0, _, _, _ => by simp [growL]
  | r + 1, pre, o, d => by
    have key : ∀ k, (growP ls r pre o d k).length ≤ k * 7 ^ r := by
      intro k
      induction k with
      | zero => simp [growP]
      | succ k ih =>
        rw [growP_succ, List.length_append, Nat.succ_mul]
        have : (if takesB ls pre o d k = true then growL ls r (pre ++ [(k : Int)]) ls[k]!.t (soon d ls[k]!) else []).length ≤ 7 ^ r := by
          split
          · exact growL_len h7
          · simp
        omega
    have h1 : growL ls (r + 1) pre o d = growP ls r pre o d ls.length := rfl
    rw [h1, Nat.pow_succ, Nat.mul_comm]
    exact Nat.le_trans (key _) (Nat.mul_le_mul_right _ h7)
theorem orders_len {mk lo : Int} {ls : List Lk} (h7 : ls.length ≤ 7) : (ordersL mk lo ls).length ≤ 823543 := by
  refine Nat.le_trans (growL_len h7) ?_
  exact Nat.le_trans (Nat.pow_le_pow_right (by decide) h7) (by decide)
end Go.Proofs.Ytijimplcjaeneaa

