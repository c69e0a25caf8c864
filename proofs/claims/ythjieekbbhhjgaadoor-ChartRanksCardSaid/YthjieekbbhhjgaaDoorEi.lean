/- The abstract machine: what has to be shown is enough. -/
import Derived.Test.YthjieekbbhhjgaaDoorEh
namespace Go.AI
section
variable {P : Program}

theorem cond_iff {b : Bool} {p q : Prop} (h : bif b then p else q) : (b = true ∧ p) ∨ (b = false ∧ q) := by
  cases b
  · exact .inr ⟨rfl, h⟩
  · exact .inl ⟨rfl, h⟩

theorem getK_spec : ∀ (L : Kn) (i : Nat) (K : Value → Prop), getK L i K → ∃ v, L.get i = some v ∧ K v
  | .leaf, _, _, h => h.elim
  | .node l u r, i, K, h => by
    unfold getK at h
    unfold Tr.get
    rcases cond_iff h with ⟨h1, h2⟩ | ⟨h1, h2⟩
    · rw [h1]
      cases u with
      | some v => exact ⟨v, rfl, h2⟩
      | none => exact h2.elim
    · rw [h1]
      rcases cond_iff h2 with ⟨h3, h4⟩ | ⟨h3, h4⟩
      · rw [h3]; exact getK_spec l _ K h4
      · rw [h3]; exact getK_spec r _ K h4

theorem half_lt {f i : Nat} (h : i + 1 < 2 ^ (f + 1)) (h0 : Nat.beq i 0 = false) : (Nat.beq (i % 2) 1 = true → i / 2 + 1 < 2 ^ f) ∧ (Nat.beq (i % 2) 1 = false → i / 2 - 1 + 1 < 2 ^ f) := by
  have hp : 2 ^ (f + 1) = 2 * 2 ^ f := by rw [Nat.pow_succ]; omega
  have h0' : i ≠ 0 := by intro h; subst h; simp [Nat.beq] at h0
  constructor
  · intro h1
    have : i % 2 = 1 := Nat.eq_of_beq_eq_true h1
    omega
  · intro h1
    have : i % 2 ≠ 1 := Nat.ne_of_beq_eq_false h1
    omega

theorem setK_spec (v : Value) : ∀ (f : Nat) (L : Kn) (i : Nat) (K : Kn → Prop), setK f L i v K → i + 1 < 2 ^ f → K (Tr.setF v f L i)
  | 0, _, _, _, h, _ => h.elim
  | f + 1, .leaf, i, K, h, hi => by
    unfold setK at h
    unfold Tr.setF
    rcases cond_iff h with ⟨h1, h2⟩ | ⟨h1, h2⟩
    · rw [h1]; exact h2
    · rw [h1]
      have hh := half_lt hi h1
      rcases cond_iff h2 with ⟨h3, h4⟩ | ⟨h3, h4⟩
      · rw [h3]; exact setK_spec v f .leaf _ _ h4 (hh.1 h3)
      · rw [h3]; exact setK_spec v f .leaf _ _ h4 (hh.2 h3)
  | f + 1, .node l u r, i, K, h, hi => by
    unfold setK at h
    unfold Tr.setF
    rcases cond_iff h with ⟨h1, h2⟩ | ⟨h1, h2⟩
    · rw [h1]; exact h2
    · rw [h1]
      have hh := half_lt hi h1
      rcases cond_iff h2 with ⟨h3, h4⟩ | ⟨h3, h4⟩
      · rw [h3]; exact setK_spec v f l _ _ h4 (hh.1 h3)
      · rw [h3]; exact setK_spec v f r _ _ h4 (hh.2 h3)
theorem setK_big (v : Value) : ∀ (f : Nat) (L : Kn) (i : Nat) (K : Kn → Prop), setK f L i v K → i + 1 < 2 ^ f
  | 0, _, _, _, h => h.elim
  | f + 1, L, i, K, h => by
    have hp : 2 ^ (f + 1) = 2 * 2 ^ f := by rw [Nat.pow_succ]; omega
    have h2p : 0 < 2 ^ f := Nat.pos_of_ne_zero (by simp)
    have key : Nat.beq i 0 = true ∨ (Nat.beq i 0 = false ∧ ((∃ L' K', Nat.beq (i % 2) 1 = true ∧ setK f L' (i / 2) v K') ∨ ∃ L' K', Nat.beq (i % 2) 1 = false ∧ setK f L' (i / 2 - 1) v K')) := by
      cases L with
      | leaf =>
        unfold setK at h
        rcases cond_iff h with ⟨h1, h2⟩ | ⟨h1, h2⟩
        · exact .inl h1
        · rcases cond_iff h2 with ⟨h3, h4⟩ | ⟨h3, h4⟩
          · exact .inr ⟨h1, .inl ⟨_, _, h3, h4⟩⟩
          · exact .inr ⟨h1, .inr ⟨_, _, h3, h4⟩⟩
      | node l u r =>
        unfold setK at h
        rcases cond_iff h with ⟨h1, h2⟩ | ⟨h1, h2⟩
        · exact .inl h1
        · rcases cond_iff h2 with ⟨h3, h4⟩ | ⟨h3, h4⟩
          · exact .inr ⟨h1, .inl ⟨_, _, h3, h4⟩⟩
          · exact .inr ⟨h1, .inr ⟨_, _, h3, h4⟩⟩
    rcases key with h1 | ⟨h0, ⟨L', K', h1, h2⟩ | ⟨L', K', h1, h2⟩⟩
    · have : i = 0 := Nat.eq_of_beq_eq_true h1
      omega
    · have h3 := setK_big v f L' _ K' h2
      have : i % 2 = 1 := Nat.eq_of_beq_eq_true h1
      omega
    · have h3 := setK_big v f L' _ K' h2
      have h5 : i % 2 ≠ 1 := Nat.ne_of_beq_eq_false h1
      have h6 : i ≠ 0 := by intro h; subst h; simp [Nat.beq] at h0
      omega

theorem Agree.set {tm : Tm} {L L' : Kn} (h : Agree tm L) {d : Nat} {v : Value} (h1 : L'.get d = some v) (h2 : ∀ j, d ≠ j → L'.get j = L.get j) : Agree (Tr.set tm d v) L' := by
  intro i w hw
  by_cases hd : d = i
  · subst hd; rw [h1] at hw; cases hw; exact Tm.at_set_eq _ _ _
  · rw [h2 i hd] at hw
    rw [Tm.at_set_ne _ _ hd]; exact h i w hw
theorem setK_get {f : Nat} {L : Kn} {i : Nat} {v : Value} {K : Kn → Prop} (h : setK f L i v K) : ∃ L', K L' ∧ L'.get i = some v ∧ ∀ j, i ≠ j → L'.get j = L.get j := by
  have hb := setK_big v f L i K h
  exact ⟨_, setK_spec v f L i K h hb, setF_eq v f L i hb, fun j hj => setF_ne v f L i j hj⟩
theorem putK_spec {tm : Tm} {L : Kn} {d : Option Tmp} {v : Value} {K : Kn → Prop} (ha : Agree tm L) (h : putK L d v K) : ∃ L', Agree (putL tm d v) L' ∧ K L' := by
  cases d with
  | none => exact ⟨L, ha, h⟩
  | some d =>
    obtain ⟨L', h1, h2, h3⟩ := setK_get h
    exact ⟨L', ha.set h2 h3, h1⟩

theorem evK_spec {tm : Tm} {L : Kn} {x : Operand} {K : Value → Prop} (ha : Agree tm L) (h : evK P L x K) : ∃ v, ev P tm x = some v ∧ K v := by
  cases x with
  | tmp t =>
    obtain ⟨v, h1, h2⟩ := getK_spec L t K h
    exact ⟨v, by simp only [ev, ha t v h1], h2⟩
  | const v =>
    rcases cond_iff h with ⟨h1, h2⟩ | ⟨h1, h2⟩
    · exact ⟨v, by simp only [ev, h1, if_true], h2⟩
    · exact h2.elim
  | global g =>
    rcases cond_iff h with ⟨h1, h2⟩ | ⟨h1, h2⟩
    · refine ⟨_, ?_, h2⟩
      have : g < P.globals.size := Nat.le_of_ble_eq_true h1
      simp only [ev, this, if_true]
    · exact h2.elim
  | func f => exact ⟨_, rfl, h⟩
theorem evsK_spec {tm : Tm} {L : Kn} (ha : Agree tm L) : ∀ (xs : List Operand) (K : List Value → Prop), evsK P L xs K → ∃ l, evs P tm xs = some l ∧ K l
  | [], K, h => ⟨[], rfl, h⟩
  | x :: r, K, h => by
    obtain ⟨v, h1, h2⟩ := evK_spec ha h
    obtain ⟨l, h3, h4⟩ := evsK_spec ha r _ h2
    exact ⟨v :: l, by simp only [evs, h1, h3], h4⟩
theorem evPartsK_spec {tm : Tm} {L : Kn} (ha : Agree tm L) : ∀ (xs : List (Nat × Operand)) (K : List (Nat × Value) → Prop), evPartsK P L xs K → ∃ l, evParts P tm xs = some l ∧ K l
  | [], K, h => ⟨[], rfl, h⟩
  | (i, x) :: r, K, h => by
    obtain ⟨v, h1, h2⟩ := evK_spec ha h
    obtain ⟨l, h3, h4⟩ := evPartsK_spec ha r _ h2
    exact ⟨(i, v) :: l, by simp only [evParts, h1, h3], h4⟩
theorem evO_spec {tm : Tm} {L : Kn} (ha : Agree tm L) {x : Option Operand} {K : Option (Option Value) → Prop} (h : evO P L x K) : K (optEv P tm x) := by
  cases x with
  | none => exact h
  | some x =>
    obtain ⟨v, h1, h2⟩ := evK_spec ha h
    simp only [optEv, h1]; exact h2
theorem nthK_spec {α : Type} : ∀ (l : List α) (i : Nat) (K : α → Prop), nthK l i K → ∃ x, l[i]? = some x ∧ K x
  | [], _, _, h => h.elim
  | x :: l, i, K, h => by
    rcases cond_iff h with ⟨h1, h2⟩ | ⟨h1, h2⟩
    · have : i = 0 := Nat.eq_of_beq_eq_true h1
      subst this; exact ⟨x, rfl, h2⟩
    · obtain ⟨y, h3, h4⟩ := nthK_spec l _ K h2
      have : i ≠ 0 := Nat.ne_of_beq_eq_false h1
      obtain ⟨j, rfl⟩ : ∃ j, i = j + 1 := ⟨i - 1, by omega⟩
      exact ⟨y, by simpa using h3, h4⟩

theorem wrap_i64 {n : Int} (h : inI64 n) : IntKind.wrap .i64 n = n := by
  obtain ⟨h1, h2⟩ := h
  unfold IntKind.wrap
  simp [IntKind.signed, IntKind.bits]
  split <;> omega
theorem sayInt_spec {wr : Bool} {k : IntKind} {n : Int} {K : Value → Prop} (h : sayInt wr k n K) : K (.int k (k.wrap n)) := by
  unfold sayInt at h
  split at h
  · rw [wrap_i64 h.1]; exact h.2
  · exact h _ rfl
theorem ask_spec {p : Prop} [Decidable p] {K : Value → Prop} (h : ask p K) : K (.bool (decide p)) := by
  by_cases hp : p
  · simpa [hp] using h.1 hp
  · simpa [hp] using h.2 hp
theorem binK_spec {wr : Bool} {op : BinOp} {a b : Value} {K : Value → Prop} {oth : Prop} (h : binK wr op a b K oth) : (∃ v, abin op a b = some v ∧ K v) ∨ oth := by
  unfold binK at h
  split at h
  · rename_i k x j y
    rcases cond_iff h with ⟨h1, h2⟩ | ⟨h1, h2⟩
    · have hk : k = j := by simpa using h1
      subst hk
      cases op <;> simp only [] at h2
      case add => exact .inl ⟨_, by simp [abin], sayInt_spec h2⟩
      case sub => exact .inl ⟨_, by simp [abin], sayInt_spec h2⟩
      case mul => exact .inl ⟨_, by simp [abin], sayInt_spec h2⟩
      case eql => refine .inl ⟨.bool (x == y), by simp only [abin, if_true], ?_⟩; have := ask_spec h2; rw [show (x == y) = decide (x = y) from rfl]; exact this
      case neq => refine .inl ⟨.bool (x != y), by simp only [abin, if_true], ?_⟩; have := ask_spec h2; rw [show (x != y) = decide (¬ x = y) by simp [bne, decide_not]; rfl]; exact this
      case lss => exact .inl ⟨_, by simp only [abin, if_true], ask_spec h2⟩
      case leq => exact .inl ⟨_, by simp only [abin, if_true], ask_spec h2⟩
      case gtr => exact .inl ⟨_, by simp only [abin, if_true], ask_spec h2⟩
      case geq => exact .inl ⟨_, by simp only [abin, if_true], ask_spec h2⟩
      all_goals exact .inr h2
    · exact .inr h2
  · exact .inr h

theorem apure_not {tm : Tm} {o : Oper} {t : TypeId} {x : Operand} {b : Bool} (ho : o.op = .unOp .not t x) (hx : ev P tm x = some (.bool b)) : apure P tm o = some (.bool !b) := by
  unfold apure
  have hv : evT tm x = .bool b := by
    cases x with
    | tmp t => simpa [ev, evT] using hx
    | const v => simp only [ev] at hx; split at hx <;> simp_all [evT]
    | global g => simp only [ev] at hx; split at hx <;> simp_all
    | func f => simp [ev] at hx
  simp [ho, Op.operands, hx, plain, flat, scalar, execOp, hv, Op.unary]
  rfl

theorem other_spec {B : Nat} {o : Oper} {tm : Tm} {L : Kn} {H : Heap} {K : Value → Heap → Prop} (ha : Agree tm L) (hB : B ≤ H.n) (h : other P o L H K) : ∃ v H' lo, step1 P tm H o = some (v, H', lo) ∧ (B ≤ lo ∧ B ≤ H'.n) ∧ K v H' := by
  obtain ⟨v, h1, h2⟩ := h
  exact ⟨v, H, H.n, h1 tm ha, ⟨hB, hB⟩, h2⟩

theorem store_n {t : TypeId} {H H' : Heap} {v a : Value} {lo : Nat} (h : astore P t H v a = some (H', lo)) : H'.n = H.n := by
  unfold astore at h
  split at h
  · split at h
    · split at h
      · cases h; rfl
      · cases h
    · cases h
  · cases h
theorem update_n {t : TypeId} {H H' : Heap} {m k x : Value} {lo : Nat} (h : amapUpdate P H t m k x = some (H', lo)) : H'.n = H.n := by
  unfold amapUpdate at h
  split at h
  · split at h
    · split at h
      · split at h
        · cases h; rfl
        · cases h; rfl
        · cases h
      · cases h
    · cases h
  · cases h
theorem alloc_n {t : TypeId} {H H' : Heap} {v : Value} {lo : Nat} (h : sAlloc P H t = some (v, H', lo)) : H.n ≤ H'.n := by
  unfold sAlloc at h
  split at h
  · split at h
    · cases h; exact Nat.le_succ _
    · cases h
  · cases h
theorem make_n {t : TypeId} {H H' : Heap} {l c v : Value} {lo : Nat} (h : amakeSlice P H t l c = some (v, H', lo)) : H.n ≤ H'.n := by
  unfold amakeSlice at h
  split at h
  · split at h
    · split at h
      · split at h
        · cases h; exact Nat.le_succ _
        · cases h
      · cases h
    · cases h
  · cases h
theorem build_n {t : TypeId} {n : Nat} {H H' : Heap} {l : List (Nat × Value)} {v : Value} {lo : Nat} (h : abuildSlice P H t n l = some (v, H', lo)) : H.n ≤ H'.n := by
  unfold abuildSlice at h
  split at h
  · split at h
    · split at h
      · split at h
        · split at h
          · cases h; exact Nat.le_succ _
          · cases h
        · cases h
      · cases h
    · cases h
  · cases h
theorem append_n {ts : Array TypeId} {H H' : Heap} {x y v : Value} {lo : Nat} (h : aappend P H ts x y = some (v, H', lo)) : H.n ≤ H'.n := by
  unfold aappend at h
  split at h
  · split at h
    · cases h
    · split at h
      · split at h
        · split at h
          · split at h
            · cases h
            · split at h
              · split at h
                · split at h
                  · cases h; exact Nat.le_refl _
                  · split at h
                    · cases h; exact Nat.le_succ _
                    · cases h
                · split at h
                  · cases h; exact Nat.le_refl _
                  · split at h
                    · cases h
                    · split at h
                      · split at h
                        · cases h; exact Nat.le_succ _
                        · cases h
                      · cases h
                · cases h
              · cases h
          · cases h
        · cases h
      · cases h
  · cases h

theorem vcOp_spec {B : Nat} {wr : Bool} {o : Oper} {tm : Tm} {L : Kn} {H : Heap} {K : Value → Heap → Prop} (ha : Agree tm L) (hB : B ≤ H.n) (h : vcOp P B wr o L H K) : ∃ v H' lo, step1 P tm H o = some (v, H', lo) ∧ (B ≤ lo ∧ B ≤ H'.n) ∧ K v H' := by
  have hBB : B ≤ H.n ∧ B ≤ H.n := ⟨hB, hB⟩
  unfold vcOp at h
  split at h
  case h_1 x ho =>
    obtain ⟨v, h1, h2⟩ := evK_spec ha h
    exact ⟨v, H, H.n, by simp only [step1, ho, h1, ret], hBB, h2⟩
  case h_2 x ho =>
    obtain ⟨v, h1, h2⟩ := evK_spec ha h
    exact ⟨v, H, H.n, by simp only [step1, ho, h1, ret], hBB, h2⟩
  case h_3 c a b ho =>
    obtain ⟨v, h1, h2⟩ := evK_spec ha h
    split at h2
    · obtain ⟨v, h3, h4⟩ := evK_spec ha h2
      exact ⟨v, H, H.n, by simp only [step1, ho, sPick, h1, h3, ret], hBB, h4⟩
    · obtain ⟨v, h3, h4⟩ := evK_spec ha h2
      exact ⟨v, H, H.n, by simp only [step1, ho, sPick, h1, h3, ret], hBB, h4⟩
    · exact h2.elim
  case h_4 t ho =>
    obtain ⟨v, H', h1, h2⟩ := h
    exact ⟨v, H', H.n, by simp only [step1, ho, h1], ⟨hB, Nat.le_trans hB (alloc_n h1)⟩, h2⟩
  case h_5 t x ho =>
    obtain ⟨v, h1, h2, h3⟩ := evK_spec ha h
    exact ⟨_, _, _, by simp only [step1, ho, sBox, h1, h2, if_true], ⟨hB, Nat.le_succ_of_le hB⟩, h3⟩
  case h_6 t x ho =>
    obtain ⟨v, h1, r, h2, h3⟩ := evK_spec ha h
    exact ⟨r, H, H.n, by simp only [step1, ho, sLoad, h1, h2, ret], hBB, h3⟩
  case h_7 t x y ho =>
    obtain ⟨v, h1, h2⟩ := evK_spec ha h
    obtain ⟨w, h3, H', lo, h4, h5, h6⟩ := evK_spec ha h2
    exact ⟨undef, H', lo, by simp only [step1, ho, sStore, h1, h3, h4], ⟨h5, by rw [store_n h4]; exact hB⟩, h6⟩
  case h_8 x ho =>
    obtain ⟨v, h1, r, h2, h3⟩ := evK_spec ha h
    exact ⟨r, H, H.n, by simp only [step1, ho, sNil, h1, h2, ret], hBB, h3⟩
  case h_9 fn first cap ho =>
    split at h
    · rename_i f
      rcases cond_iff h with ⟨h1, h2⟩ | ⟨h1, h2⟩
      · have h1' : first.size = 0 := by simpa using h1
        obtain ⟨l, h3, h4, h5⟩ := evsK_spec ha _ _ h2
        exact ⟨_, H, H.n, by simp only [step1, ho, sFunc, h1', h3, h4, if_true], hBB, h5⟩
      · exact h2.elim
    · exact h.elim
  case h_10 t r ho =>
    split at h
    · exact ⟨_, _, _, by simp only [step1, ho, sMakeMap], ⟨hB, Nat.le_succ_of_le hB⟩, h⟩
    · exact h.elim
  case h_11 t l c ho =>
    obtain ⟨v, h1, h2⟩ := evK_spec ha h
    obtain ⟨w, h3, u, H', h4, h5⟩ := evK_spec ha h2
    exact ⟨u, H', H.n, by simp only [step1, ho, sMakeSlice, h1, h3, h4], ⟨hB, Nat.le_trans hB (make_n h4)⟩, h5⟩
  case h_12 t x lo hi mx ho =>
    split at h
    · exact h.elim
    · obtain ⟨v, h1, h2⟩ := evK_spec ha h
      obtain ⟨r, h4, h5⟩ := evO_spec ha (evO_spec ha h2)
      exact ⟨r, H, H.n, by simp only [step1, ho, sSlice, h1, h4, ret], hBB, h5⟩
  case h_13 s x f ho =>
    obtain ⟨v, h1, r, h2, h3⟩ := evK_spec ha h
    exact ⟨r, H, H.n, by simp only [step1, ho, sFieldAddr, h1, h2, ret], hBB, h3⟩
  case h_14 t x i ho =>
    obtain ⟨v, h1, h2⟩ := evK_spec ha h
    obtain ⟨w, h3, r, h4, h5⟩ := evK_spec ha h2
    exact ⟨r, H, H.n, by simp only [step1, ho, sIndexAddr, h1, h3, h4, ret], hBB, h5⟩
  case h_15 t x f ho =>
    obtain ⟨v, h1, r, h2, h3⟩ := evK_spec ha h
    exact ⟨r, H, H.n, by simp only [step1, ho, sField, h1, h2, ret], hBB, h3⟩
  case h_16 t x i ho =>
    obtain ⟨v, h1, h2⟩ := evK_spec ha h
    obtain ⟨w, h3, r, h4, h5⟩ := evK_spec ha h2
    exact ⟨r, H, H.n, by simp only [step1, ho, sIndex, h1, h3, h4, ret], hBB, h5⟩
  case h_17 x i ho =>
    obtain ⟨v, h1, h2⟩ := evK_spec ha h
    split at h2
    · obtain ⟨r, h3, h4⟩ := nthK_spec _ _ _ h2
      exact ⟨r, H, H.n, by simp only [step1, ho, sExtract, h1, h3, ret], hBB, h4⟩
    · exact h2.elim
  case h_18 t parts ho =>
    obtain ⟨l, h1, r, h2, h3⟩ := evPartsK_spec ha _ _ h
    exact ⟨r, H, H.n, by simp only [step1, ho, sBuild, h1, h2, ret], hBB, h3⟩
  case h_19 t len parts ho =>
    obtain ⟨l, h1, u, H', h2, h3⟩ := evPartsK_spec ha _ _ h
    exact ⟨u, H', H.n, by simp only [step1, ho, sBuildSlice, h1, h2], ⟨hB, Nat.le_trans hB (build_n h2)⟩, h3⟩
  case h_20 t x k ok ho =>
    obtain ⟨v, h1, h2⟩ := evK_spec ha h
    obtain ⟨w, h3, r, h4, h5⟩ := evK_spec ha h2
    exact ⟨r, H, H.n, by simp only [step1, ho, sLookup, h1, h3, h4, ret], hBB, h5⟩
  case h_21 t m k x ho =>
    obtain ⟨v, h1, h2⟩ := evK_spec ha h
    obtain ⟨w, h3, h4⟩ := evK_spec ha h2
    obtain ⟨u, h5, H', lo, h6, h7, h8⟩ := evK_spec ha h4
    exact ⟨undef, H', lo, by simp only [step1, ho, sMapUpdate, h1, h3, h5, h6], ⟨h7, by rw [update_n h6]; exact hB⟩, h8⟩
  case h_22 t m k x ho =>
    obtain ⟨v, h1, h2⟩ := evK_spec ha h
    obtain ⟨w, h3, h4⟩ := evK_spec ha h2
    obtain ⟨u, h5, H', lo, h6, h7, h8⟩ := evK_spec ha h4
    exact ⟨undef, H', lo, by simp only [step1, ho, sMapUpdate, h1, h3, h5, h6], ⟨h7, by rw [update_n h6]; exact hB⟩, h8⟩
  case h_23 op xt x y z ho =>
    obtain ⟨v, h1, h2⟩ := evK_spec ha h
    obtain ⟨w, h3, h4⟩ := evK_spec ha h2
    rcases binK_spec h4 with ⟨r, h5, h6⟩ | h5
    · exact ⟨r, H, H.n, by simp only [step1, ho, sBin, h1, h3, h5], hBB, h6⟩
    · exact other_spec ha hB h5
  case h_24 op t x ho =>
    split at h
    · obtain ⟨v, h1, h2⟩ := evK_spec ha h
      split at h2
      · exact ⟨_, H, H.n, by simp only [step1, ho, apure_not ho h1, ret, Bool.not_true, Bool.not_false], hBB, h2⟩
      · exact ⟨_, H, H.n, by simp only [step1, ho, apure_not ho h1, ret, Bool.not_true, Bool.not_false], hBB, h2⟩
      · exact other_spec ha hB h2
    · exact other_spec ha hB h
  case h_25 c ho =>
    split at h
    · rename_i hcal
      split at h
      · rename_i x t hx ht
        obtain ⟨v, h1, r, h2, h3⟩ := evK_spec ha h
        exact ⟨r, H, H.n, by simp only [step1, ho, sCall, hcal, sBuiltin, sLen, hx, ht, h1, h2, ret], hBB, h3⟩
      · exact h.elim
    · rename_i hcal
      split at h
      · rename_i x y hx
        obtain ⟨v, h1, h2⟩ := evK_spec ha h
        obtain ⟨w, h3, u, H', lo, h4, h5, h6⟩ := evK_spec ha h2
        exact ⟨u, H', lo, by simp only [step1, ho, sCall, hcal, sBuiltin, sAppend, hx, h1, h3, h4], ⟨h5, Nat.le_trans hB (append_n h4)⟩, h6⟩
      · exact h.elim
    · exact other_spec ha hB h
    · exact h.elim
  case h_26 => exact other_spec ha hB h

def calleeOk (P : Program) (f : Nat) : Bool :=
  match P.funcs[f]? with
  | some fn => fn.body.isSome && decide (fn.name ≠ "runtime.NumGoroutine")
  | none => false
def calleesOk (P : Program) : Nat → Bool
  | 0 => true
  | n + 1 => (calleeOk P n || Nat.blt n 2) && calleesOk P n
theorem calleesOk_spec : ∀ (N : Nat), calleesOk P N = true → ∀ f, 2 ≤ f → f < N → calleeOk P f = true
  | 0, _, f, _, hf => absurd hf (Nat.not_lt_zero f)
  | N + 1, h, f, h2, hf => by
    simp only [calleesOk, Bool.and_eq_true] at h
    by_cases he : f = N
    · subst he
      rcases h with ⟨h, _⟩
      simp only [Bool.or_eq_true] at h
      rcases h with h | h
      · exact h
      · have : f < 2 := Nat.le_of_ble_eq_true h
        omega
    · exact calleesOk_spec N h.2 f h2 (by omega)

theorem vcOp_noCall {B : Nat} {wr : Bool} {o : Oper} {tm : Tm} {L : Kn} {H : Heap} {K : Value → Heap → Prop} (h : vcOp P B wr o L H K) : callOf P tm o = none := by
  unfold callOf
  unfold vcOp at h
  split
  · rename_i c ho
    split
    · rename_i g hg
      simp only [ho, hg] at h
    · rfl
  · rfl

theorem guardK_spec {ops : List Oper} {tm : Tm} {L : Kn} {j : Nat} {K : Bool → Prop} (ha : Agree tm L) (h : guardK ops L j K) : ∃ b, yieldedL ops tm j = some b ∧ K b := by
  obtain ⟨o, h1, h2⟩ := nthK_spec _ _ _ h
  split at h2
  · rename_i d hd
    obtain ⟨v, h3, h4⟩ := getK_spec _ _ _ h2
    have h5 := ha _ _ h3
    split at h4
    · exact ⟨true, by simp only [yieldedL, h1, hd, h5], h4⟩
    · exact ⟨false, by simp only [yieldedL, h1, hd, h5], h4⟩
    · exact h4.elim
  · exact h2.elim
theorem bEq_spec {a b : Bool} : (some a == some b) = bEq a b := by cases a <;> cases b <;> rfl

/-- What a call yields, by what is known at its end. -/
def resK (P : Program) (L : Kn) (H : Heap) : List ResultVar → (List Value → Prop) → Prop
  | [], K => K []
  | x :: r, K => match x with
    | .tmp t => getK L t fun v => resK P L H r fun l => K (v :: l)
    | .cell a t => getK L a fun p => match p with
      | .pointer (some ad) => ∃ v, aload P t H (.pointer (some ad)) = some v ∧ resK P L H r fun l => K (v :: l)
      | _ => False
theorem resK_spec {tm : Tm} {L : Kn} {H : Heap} (ha : Agree tm L) : ∀ (rs : List ResultVar) (K : List Value → Prop), resK P L H rs K → ∃ l, ressOf P tm H rs = some l ∧ K l
  | [], K, h => ⟨[], rfl, h⟩
  | x :: r, K, h => by
    unfold resK at h
    cases x with
    | tmp t =>
      obtain ⟨v, h1, h2⟩ := getK_spec _ _ _ h
      obtain ⟨l, h3, h4⟩ := resK_spec ha r _ h2
      exact ⟨v :: l, by simp only [ressOf, resOf, ha _ _ h1, h3], h4⟩
    | cell a t =>
      obtain ⟨p, h1, h2⟩ := getK_spec _ _ _ h
      split at h2
      · obtain ⟨v, h3, h4⟩ := h2
        obtain ⟨l, h5, h6⟩ := resK_spec ha r _ h4
        exact ⟨v :: l, by simp only [ressOf, resOf, ha _ _ h1, h3, h5], h6⟩
      · exact h2.elim

def tupK (l : List Value) (K : Value → Prop) : Prop :=
  match l with
  | [v] => K v
  | l => K (.tuple l.toArray)

def argsK : List Value → Nat → Kn → (Kn → Prop) → Prop
  | [], _, L, K => K L
  | v :: r, i, L, K => setK 14 L i v fun L => argsK r (i + 1) L K
theorem argsK_spec : ∀ (l : List Value) (i : Nat) (tm : Tm) (L : Kn) (K : Kn → Prop), Agree tm L → argsK l i L K → ∃ L', Agree (putArgs l i tm) L' ∧ K L'
  | [], _, _, L, K, ha, h => ⟨L, ha, h⟩
  | v :: r, i, tm, L, K, ha, h => by
    obtain ⟨L', h1, h2, h3⟩ := setK_get h
    exact argsK_spec r (i + 1) _ L' K (ha.set h2 h3) h1

/-- What is known covers what is listed. -/
def covers (L : Kn) : List (Nat × Value) → Prop
  | [] => True
  | (i, v) :: r => getK L i (fun w => w = v) ∧ covers L r
theorem mkK_spec : ∀ (l : List (Nat × Value)) (L : Kn) (K : Kn → Prop), mkK l L K → ∃ L', K L' ∧ ∀ i v, L'.get i = some v → L.get i = some v ∨ (i, v) ∈ l
  | [], L, K, h => ⟨L, h, fun i v hv => .inl hv⟩
  | (i, v) :: r, L, K, h => by
    obtain ⟨L1, h1, h2, h3⟩ := setK_get h
    obtain ⟨L', h4, h5⟩ := mkK_spec r L1 K h1
    refine ⟨L', h4, fun j w hw => ?_⟩
    rcases h5 j w hw with h6 | h6
    · by_cases hij : i = j
      · subst hij; rw [h2] at h6; cases h6; exact .inr (by simp)
      · rw [h3 j hij] at h6; exact .inl h6
    · exact .inr (by simp [h6])
theorem covers_mem : ∀ (L : Kn) (l : List (Nat × Value)), covers L l → ∀ i v, (i, v) ∈ l → L.get i = some v
  | _, [], _, i, v, h => by simp at h
  | L, (j, w) :: r, hc, i, v, h => by
    obtain ⟨h1, h2⟩ := hc
    rcases List.mem_cons.mp h with h3 | h3
    · cases h3
      obtain ⟨u, h4, h5⟩ := getK_spec _ _ _ h1
      rw [h5] at h4; exact h4
    · exact covers_mem L r h2 i v h3
variable [Oracle P]
theorem vcStep_spec {N B Bc : Nat} (hN : calleesOk P N = true) {wr : Bool} {o : Oper} {tm : Tm} {L : Kn} {H : Heap} {Kc K : Value → Heap → Prop} (ha : Agree tm L) (hB : B ≤ H.n) (h : vcStep P N B Bc wr o L H Kc K) :
    (∃ f l, callOf P tm o = some (f, l) ∧ CallB P Bc f l H Kc) ∨ (callOf P tm o = none ∧ ∃ v H' lo, step1 P tm H o = some (v, H', lo) ∧ (B ≤ lo ∧ B ≤ H'.n) ∧ K v H') := by
  unfold vcStep at h
  split at h
  · rename_i c ho
    split at h
    · rename_i g hg
      obtain ⟨v, h1, h2⟩ := evK_spec ha h
      split at h2
      · rename_i f first cap
        rcases cond_iff h2 with ⟨h3, h4⟩ | ⟨h3, h4⟩
        · simp only [Bool.and_eq_true, decide_eq_true_eq] at h3
          obtain ⟨h3, h52, h5⟩ := h3
          have h5 : f < N := Nat.le_of_ble_eq_true h5
          have h52 : 2 ≤ f := Nat.le_of_ble_eq_true h52
          obtain ⟨l, h6, h7⟩ := evsK_spec ha _ _ h4
          refine .inl ⟨f, l ++ cap.toList, ?_, h7⟩
          have h8 := calleesOk_spec N hN f h52 h5
          unfold calleeOk at h8
          simp only [callOf, ho, hg, calleeOf, h1, h3, if_true]
          split at h8
          · rename_i fn hfn
            simp only [Bool.and_eq_true, decide_eq_true_eq] at h8
            simp only [hfn]
            rw [if_pos h8]
            simp only [h6]
          · simp at h8
        · exact h4.elim
      · exact h2.elim
    · exact h.elim
    · exact .inr ⟨vcOp_noCall h, vcOp_spec ha hB h⟩
  · exact .inr ⟨vcOp_noCall h, vcOp_spec ha hB h⟩

theorem vcOps_spec {N B : Nat} (hN : calleesOk P N = true) {wr : Bool} {ops : List Oper} : ∀ (l : List Oper) (L : Kn) (tm : Tm) (H : Heap) (lo : Nat) (K : Kn → Heap → Prop), Agree tm L → B ≤ lo → B ≤ H.n → vcOps P N B wr ops l L H K →
    WO P ops l ⟨tm, H, lo⟩ fun st => B ≤ st.lo ∧ B ≤ st.heap.n ∧ ∃ L', Agree st.tmps L' ∧ K L' st.heap
  | [], L, tm, H, lo, K, ha, hl, hB, h => WO.nil ⟨hl, hB, L, ha, h⟩
  | o :: rest, L, tm, H, lo, K, ha, hl, hB, h => by
    unfold vcOps at h
    have key : wantedL ops tm o = true → (vcStep P N B B wr o L H (fun v H' => putK L o.dst v fun L' => vcOps P N B wr ops rest L' H' K) (fun v H' => putK L o.dst v fun L' => vcOps P N B wr ops rest L' H' K)) →
        WO P ops (o :: rest) ⟨tm, H, lo⟩ fun st => B ≤ st.lo ∧ B ≤ st.heap.n ∧ ∃ L', Agree st.tmps L' ∧ K L' st.heap := by
      intro hw h
      rcases vcStep_spec hN ha hB h with ⟨f, l, h1, h2⟩ | ⟨h1, v, H', lo', h2, h0, h3⟩
      · refine WO.call hw h1 (h2.run.mono fun v H' lo' h3 => ?_)
        obtain ⟨L', h4, h5⟩ := putK_spec ha h3.2
        exact vcOps_spec hN rest L' _ _ _ K h4 (Nat.le_min.2 ⟨hl, h3.1.1⟩) h3.1.2 h5
      · refine WO.step hw h1 h2 ?_
        obtain ⟨L', h4, h5⟩ := putK_spec ha h3
        exact vcOps_spec hN rest L' _ _ _ K h4 (Nat.le_min.2 ⟨hl, h0.1⟩) h0.2 h5
    split at h
    · rename_i hg
      exact key (by simp only [wantedL, hg]) h
    · rename_i j want hg
      obtain ⟨b, h1, h2⟩ := guardK_spec ha h
      have hw : wantedL ops tm o = bEq b want := by simp only [wantedL, hg, h1, bEq_spec]
      rcases cond_iff h2 with ⟨h3, h4⟩ | ⟨h3, h4⟩
      · exact key (by rw [hw, h3]) h4
      · obtain ⟨L', h5, h6⟩ := putK_spec ha h4
        exact WO.skip (by rw [hw, h3]) (vcOps_spec hN rest L' _ _ _ K h5 hl hB h6)

theorem vcHead_spec {N B : Nat} (hN : calleesOk P N = true) {wr : Bool} {ops : List Oper} : ∀ (l : List Oper) (L : Kn) (tm : Tm) (H : Heap) (lo : Nat) (K : Kn → Heap → Prop), Agree tm L → B ≤ lo → B ≤ H.n → vcHead P N B wr ops l L H K →
    WH P ops l ⟨tm, H, lo⟩ fun st => B ≤ st.lo ∧ B ≤ st.heap.n ∧ ∃ L', Agree st.tmps L' ∧ K L' st.heap
  | [], L, tm, H, lo, K, ha, hl, hB, h => WH.nil ⟨hl, hB, L, ha, h⟩
  | o :: rest, L, tm, H, lo, K, ha, hl, hB, h => by
    unfold vcHead at h
    have key : wantedL ops tm o = true → (vcStep P N B H.n wr o L H (fun v _ => plain v = true ∧ putK L o.dst v fun L' => vcHead P N B wr ops rest L' H K) (fun v _ => putK L o.dst v fun L' => vcHead P N B wr ops rest L' H K)) →
        WH P ops (o :: rest) ⟨tm, H, lo⟩ fun st => B ≤ st.lo ∧ B ≤ st.heap.n ∧ ∃ L', Agree st.tmps L' ∧ K L' st.heap := by
      intro hw h
      rcases vcStep_spec hN ha hB h with ⟨f, l, h1, h2⟩ | ⟨h1, v, H', lo', h2, h0, h3⟩
      · refine WH.call hw h1 (h2.run.mono fun v H' lo' h3 => ⟨⟨h3.2.1, h3.1.1⟩, ?_⟩)
        obtain ⟨L', h4, h5⟩ := putK_spec ha h3.2.2
        exact vcHead_spec hN rest L' _ _ _ K h4 hl hB h5
      · refine WH.step hw h1 h2 ?_
        obtain ⟨L', h4, h5⟩ := putK_spec ha h3
        exact vcHead_spec hN rest L' _ _ _ K h4 hl hB h5
    split at h
    · rename_i hg
      exact key (by simp only [wantedL, hg]) h
    · rename_i j want hg
      obtain ⟨b, h1, h2⟩ := guardK_spec ha h
      have hw : wantedL ops tm o = bEq b want := by simp only [wantedL, hg, h1, bEq_spec]
      rcases cond_iff h2 with ⟨h3, h4⟩ | ⟨h3, h4⟩
      · exact key (by rw [hw, h3]) h4
      · obtain ⟨L', h5, h6⟩ := putK_spec ha h4
        exact WH.skip (by rw [hw, h3]) (vcHead_spec hN rest L' _ _ _ K h5 hl hB h6)

theorem WO.mono {ops l : List Oper} {st : St} {Q Q' : St → Prop} (h : WO P ops l st Q) (hq : ∀ st', Q st' → Q' st') : WO P ops l st Q' := by
  obtain ⟨k, st', h1, h2⟩ := h; exact ⟨k, st', h1, hq _ h2⟩
theorem WH.mono {ops l : List Oper} {st : St} {Q Q' : St → Prop} (h : WH P ops l st Q) (hq : ∀ st', Q st' → Q' st') : WH P ops l st Q' := by
  obtain ⟨k, st', h1, h2⟩ := h; exact ⟨k, st', h1, hq _ h2⟩

theorem vc_spec {N B : Nat} (hN : calleesOk P N = true) {wr : Bool} : ∀ (c : Code) (L : Kn) (H : Heap) (Q : Exit → Kn → Heap → Prop), vc P N B wr c L H Q → WCv P B c L H Q := by
  intro c
  induction c with
  | skip => intro L H Q h; refine ⟨fun tm lo ha hl hB => ?_⟩; exact WC.skip ⟨hl, hB, L, ha, h⟩
  | label l => intro L H Q h; refine ⟨fun tm lo ha hl hB => ?_⟩; exact WC.label ⟨hl, hB, L, ha, h⟩
  | exit id => intro L H Q h; refine ⟨fun tm lo ha hl hB => ?_⟩; exact WC.exit ⟨hl, hB, L, ha, h⟩
  | ret => intro L H Q h; refine ⟨fun tm lo ha hl hB => ?_⟩; exact WC.ret ⟨hl, hB, L, ha, h⟩
  | region id ops draw =>
    intro L H Q h
    refine ⟨fun tm lo ha hl hB => ?_⟩
    unfold vc at h
    cases draw with
    | false => exact WC.region (vcOps_spec hN _ L tm H lo _ ha hl hB h)
    | true =>
      refine WC.draw ((vcHead_spec hN _ L tm H lo _ ha hl hB h).mono ?_)
      rintro ⟨tm', H', lo'⟩ ⟨hl', hB', L', h1, h2⟩
      refine (vcOps_spec hN _ L' _ _ _ _ h1 hl' hB' h2).mono ?_
      rintro ⟨tm2, H2, lo2⟩ ⟨hl2, hB2, L2, h3, h4⟩
      exact vcHead_spec hN _ L2 _ _ _ _ h3 hl2 hB2 h4
  | seq a b iha ihb =>
    intro L H Q h
    refine ⟨fun tm lo ha hl hB => ?_⟩
    unfold vc at h
    refine WC.seq (((iha L H _ h).run tm lo ha hl hB).mono ?_)
    rintro e ⟨tm', H', lo'⟩ ⟨hl', hB', L', h1, h2⟩
    cases e with
    | normal => exact (ihb L' H' Q h2).run tm' lo' h1 hl' hB'
    | _ => exact ⟨hl', hB', L', h1, h2⟩
  | cond x a b iha ihb =>
    intro L H Q h
    refine ⟨fun tm lo ha hl hB => ?_⟩
    unfold vc at h
    obtain ⟨v, h1, h2⟩ := evK_spec ha h
    split at h2
    · exact WC.cond h1 ((iha L H Q h2).run tm lo ha hl hB)
    · exact WC.cond h1 ((ihb L H Q h2).run tm lo ha hl hB)
    · exact h2.elim
  | block id b ih =>
    intro L H Q h
    refine ⟨fun tm lo ha hl hB => ?_⟩
    unfold vc at h
    refine WC.block (((ih L H _ h).run tm lo ha hl hB).mono ?_)
    rintro e ⟨tm', H', lo'⟩ ⟨hl', hB', L', h1, h2⟩
    cases e with
    | exit j =>
      simp only [inBlk]
      rcases cond_iff h2 with ⟨h3, h4⟩ | ⟨h3, h4⟩
      · rw [if_pos (Nat.eq_of_beq_eq_true h3)]; exact ⟨hl', hB', L', h1, h4⟩
      · rw [if_neg (Nat.ne_of_beq_eq_false h3)]; exact ⟨hl', hB', L', h1, h4⟩
    | _ => exact ⟨hl', hB', L', h1, h2⟩
  | scope b ih =>
    intro L H Q h
    refine ⟨fun tm lo ha hl hB => ?_⟩
    unfold vc at h
    refine WC.scope (((ih L H _ h).run tm lo ha hl hB).mono ?_)
    rintro e ⟨tm', H', lo'⟩ ⟨hl', hB', L', h1, h2⟩
    cases e with
    | goto j => exact h2.elim
    | _ => exact ⟨hl', hB', L', h1, h2⟩
  | loop b ih => intro L H Q h; exact h
  | _ => intro L H Q h; exact h.elim

/-- What has to be shown of a call. -/
def vcF (P : Program) [Oracle P] (N B : Nat) (wr : Bool) (fn : Func) (c : Code) (args : List Value) (H : Heap) (Q : Value → Heap → Prop) : Prop :=
  argsK args 0 .leaf fun L => vc P N B wr c L H fun e L H => match e with
    | .normal => resK P L H fn.results.toList fun l => l.all notTuple = true ∧ tupK l fun v => Q v H
    | .ret => resK P L H fn.results.toList fun l => l.all notTuple = true ∧ tupK l fun v => Q v H
    | _ => False

theorem vcF_spec {N B : Nat} (hN : calleesOk P N = true) {wr : Bool} {f : FuncId} {args : List Value} {H : Heap} {Q : Value → Heap → Prop} {fn : Func} {c : Code} (hor : Oracle.val P f = none) (hf : P.funcs[f]? = some fn) (hb : fn.body = some c) (hok : codeOk fn.ntmps c = true) (hl : args.length ≤ fn.ntmps)
    (hB : B ≤ H.n) (h : vcF P N B wr fn c args H Q) : CallB P B f args H Q := by
  obtain ⟨L, h1, h2⟩ := argsK_spec args 0 .leaf .leaf _ (by intro i v hv; simp [Tr.get] at hv) h
  refine ⟨WF.enter hor hf hb hok hl (((vc_spec hN c L H _ h2).run _ H.n h1 hB hB).mono ?_)⟩
  rintro e ⟨tm, H', lo⟩ ⟨hl', hB', L', h3, h4⟩
  have key : ∀ (h : resK P L' H' fn.results.toList fun l => l.all notTuple = true ∧ tupK l fun v => Q v H'), ∃ vs, ressOf P tm H' fn.results.toList = some vs ∧ vs.all notTuple = true ∧ (B ≤ lo ∧ B ≤ H'.n) ∧ Q (tupled vs) H' := by
    intro h
    obtain ⟨l, h5, h6, h7⟩ := resK_spec h3 _ _ h
    refine ⟨l, h5, h6, ⟨hl', hB'⟩, ?_⟩
    unfold tupK at h7
    unfold tupled
    split at h7
    · exact h7
    · rename_i hne
      split
      · exact absurd rfl (hne _)
      · exact h7
  cases e with
  | normal => exact ⟨rfl, key h4⟩
  | ret => exact ⟨rfl, key h4⟩
  | _ => exact h4.elim

theorem CallB.mono {B : Nat} {f : FuncId} {l : List Value} {H : Heap} {Q Q' : Value → Heap → Prop} (h : CallB P B f l H Q) (hq : ∀ v H', Q v H' → Q' v H') : CallB P B f l H Q' :=
  ⟨h.run.mono fun v H' lo h' => ⟨h'.1, hq _ _ h'.2⟩⟩
theorem CallB.known {B : Nat} {f : FuncId} {v : Value} {H : Heap} {Q : Value → Heap → Prop} (ho : Oracle.val P f = some v) (hb : Oracle.base P H) (hB : B ≤ H.n) (h : Q v H) : CallB P B f [] H Q :=
  ⟨WF.known ho hb ⟨⟨hB, hB⟩, h⟩⟩

/-- From here on only what is listed is known. -/
theorem WCv.forget {B : Nat} {c : Code} {L : Kn} {H : Heap} {Q : Exit → Kn → Heap → Prop} (l : List (Nat × Value)) (hc : covers L l) (h : mkK l .leaf fun L' => WCv P B c L' H Q) : WCv P B c L H Q := by
  refine ⟨fun tm lo ha hl hB => ?_⟩
  obtain ⟨L', h1, h2⟩ := mkK_spec l .leaf _ h
  refine h1.run tm lo (fun i v hv => ?_) hl hB
  rcases h2 i v hv with h3 | h3
  · simp [Tr.get] at h3
  · exact ha i v (covers_mem L l hc i v h3)
theorem WCv.mono {B : Nat} {c : Code} {L : Kn} {H : Heap} {Q Q' : Exit → Kn → Heap → Prop} (h : WCv P B c L H Q) (hq : ∀ e L H, Q e L H → Q' e L H) : WCv P B c L H Q' := by
  refine ⟨fun tm lo ha hl hB => ?_⟩
  exact (h.run tm lo ha hl hB).mono fun e st ⟨hl', hB', L', h1, h2⟩ => ⟨hl', hB', L', h1, hq _ _ _ h2⟩

/-- What goes on behind a round. -/
def roundK {α : Type} (S : α → List (Nat × Value)) (I : α → Heap → Prop) (μ : α → Nat) (a : α) (Q : Exit → Kn → Heap → Prop) : Exit → Kn → Heap → Prop
  | .normal, L, H => ∃ a', covers L (S a') ∧ μ a' < μ a ∧ I a' H
  | e, L, H => Q e L H

/-- A loop, by what is known at each round's head. -/
theorem WCv.loop {α : Type} {N B : Nat} (hN : calleesOk P N = true) (wr : Bool) {b : Code} {L : Kn} {H : Heap} {Q : Exit → Kn → Heap → Prop} (S : α → List (Nat × Value)) (I : α → Heap → Prop) (μ : α → Nat)
    (a0 : α) (hc : covers L (S a0)) (hI : I a0 H)
    (hr : ∀ a Hx, I a Hx → B ≤ Hx.n → mkK (S a) .leaf fun L' => vc P N B wr b L' Hx (roundK S I μ a Q)) : WCv P B (.loop b) L H Q := by
  have key : ∀ n a, μ a = n → ∀ Hx lo, I a Hx → B ≤ lo → B ≤ Hx.n → ∀ tm, (∀ i v, (i, v) ∈ S a → Tm.at tm i = v) → WC P (.loop b) ⟨tm, Hx, lo⟩ fun e st => B ≤ st.lo ∧ B ≤ st.heap.n ∧ ∃ L', Agree st.tmps L' ∧ Q e L' st.heap := by
    intro n
    induction n using Nat.strongRecOn with
    | _ n ih =>
      intro a hn Hx lo hI hl hB tm ht
      obtain ⟨L', h1, h2⟩ := mkK_spec (S a) .leaf _ (hr a Hx hI hB)
      have ha : Agree tm L' := fun i v hv => by
        rcases h2 i v hv with h3 | h3
        · simp [Tr.get] at h3
        · exact ht i v h3
      refine WC.round (((vc_spec hN b L' _ _ h1).run tm lo ha hl hB).mono ?_)
      rintro e ⟨tm', H', lo'⟩ ⟨hl', hB', L2, h3, h4⟩
      cases e with
      | normal =>
        obtain ⟨a', h5, h6, h7⟩ := h4
        exact ih _ (by rw [← hn]; exact h6) a' rfl H' lo' h7 hl' hB' tm' fun i v hv => h3 i v (covers_mem L2 _ h5 i v hv)
      | _ => exact ⟨hl', hB', L2, h3, h4⟩
  exact ⟨fun tm lo ha hl hB => key _ a0 rfl H lo hI hl hB tm fun i v hv => ha i v (covers_mem L _ hc i v hv)⟩
end
end Go.AI
