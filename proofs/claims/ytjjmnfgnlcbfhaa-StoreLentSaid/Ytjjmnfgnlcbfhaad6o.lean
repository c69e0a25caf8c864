
/- The best choice, by lists; the reference's Lend. -/
import Derived.Test.Ytjjmnfgnlcbfhaad5o
set_option linter.unusedVariables false
set_option linter.unusedSimpArgs false
namespace Go.Proofs.Ytjjmnfgnlcbfhaa
open Go.AI
theorem selX_bits {l : List Lo} {bs : List Bool} (h : bs.length = l.length) : memL l (valB bs) = (selB 0 bs).map fun k => l[k.toNat]! := by
  unfold memL
  rw [← h, bits_valB, ← selX_at (n := l.length) h (Nat.le_refl _), List.take_length]
/-- A list of loans that is best of all: no choice is worth more, nor as much with fewer loans, nor with as many that come before. -/
structure BestL (l : List Lo) (b : List Bool) : Prop where
  n : b.length = l.length
  a : AccP (memL l (valB b))
  m : ∀ c : List Bool, c.length = l.length → AccP (memL l (valB c)) → wsum (memL l (valB c)) < wsum (memL l (valB b)) ∨ (wsum (memL l (valB c)) = wsum (memL l (valB b)) ∧ ((selB 0 b).length < (selB 0 c).length ∨ ((selB 0 b).length = (selB 0 c).length ∧ (c = b ∨ befL (selB 0 b) (selB 0 c) = true))))
theorem memL_sel {l : List Lo} {b : List Bool} (h : b.length = l.length) : (memL l (valB b)).length = (selB 0 b).length := by
  rw [selX_bits h, List.length_map]
theorem bits_back {l : List Lo} {k : Nat} (h : k < 2 ^ l.length) : valB (bitsB k l.length) = k := by
  rw [valB_bits, Nat.mod_eq_of_lt h]
theorem valB_inj {a b : List Bool} (hl : a.length = b.length) (h : valB a = valB b) : a = b := by
  rw [← bits_valB a, ← bits_valB b, hl, h]
theorem BestN.list {l : List Lo} {best : Nat} (h : BestN l (2 ^ l.length) best) : BestL l (bitsB best l.length) := by
  obtain ⟨h1, h2, h3⟩ := h
  refine ⟨bitsB_len _ _, by rw [bits_back h1]; exact h2, fun c hc ha => ?_⟩
  have hv := valB_lt c
  rw [hc] at hv
  have hb := bits_back h1
  have hlb := memL_sel (l := l) (b := bitsB best l.length) (bitsB_len _ _)
  have hlc := memL_sel hc
  rw [hb] at hlb
  rw [hb]
  rcases h3 (valB c) hv ha with h4 | ⟨h4, h5⟩
  · exact .inl h4
  · refine .inr ⟨h4, ?_⟩
    rcases h5 with h5 | ⟨h5, h6⟩
    · exact .inl (by omega)
    · refine .inr ⟨by omega, ?_⟩
      by_cases e : valB c = best
      · left
        refine valB_inj (by rw [hc, bitsB_len]) ?_
        rw [e, hb]
      · right
        exact selB_bef (by rw [hc, bitsB_len]) (by omega) (by rw [hb]; omega)
theorem BestL.one {l : List Lo} {a b : List Bool} (ha : BestL l a) (hb : BestL l b) : a = b := by
  have h1 := ha.m b hb.n hb.a
  have h2 := hb.m a ha.n ha.a
  rcases h1 with h1 | ⟨h1, h3⟩
  · rcases h2 with h2 | ⟨h2, _⟩ <;> omega
  · rcases h2 with h2 | ⟨h2, h4⟩
    · omega
    · rcases h3 with h3 | ⟨h3, h5⟩
      · rcases h4 with h4 | ⟨h4, _⟩ <;> omega
      · rcases h4 with h4 | ⟨h4, h6⟩
        · omega
        · rcases h5 with h5 | h5
          · exact h5.symm
          · rcases h6 with h6 | h6
            · exact h6
            · rw [befL_anti h5] at h6; cases h6
/-- What is the best of the first sets: a list of bits, or none yet. -/
theorem setB_at {s : Nat} : ∀ {n i : Nat}, i < n → (setB' s n)[i]! = s.testBit i
  | n + 1, i, h => by
    have hl := setB_len (s := s) n
    rw [setB', getElem!_pos _ i (by rw [List.length_append, hl]; simp; omega)]
    by_cases e : i < n
    · rw [List.getElem_append_left (by omega)]
      have := setB_at (s := s) e
      rwa [getElem!_pos _ i (by omega)] at this
    · obtain rfl : i = n := by omega
      rw [List.getElem_append_right (by omega)]
      simp [hl]
theorem set_all (bs : List Bool) : ∃ s, s < 2 ^ bs.length ∧ setB' s bs.length = bs := by
  obtain ⟨s, h1, h2⟩ := set_of bs
  refine ⟨s, h1, ?_⟩
  apply List.ext_getElem (setB_len _)
  intro i h3 h4
  have a := setB_at (s := s) (n := bs.length) h4
  rw [getElem!_pos _ i h3] at a
  rw [a, h2 i h4, getElem!_pos bs i h4]
theorem setL_mem {l : List Lo} {s : Nat} : setL l s l.length = memL l (valB (setB' s l.length)) := (selX_bits (setB_len _)).symm
/-- The reference keeps the best of the sets before. -/
def BestS (l : List Lo) (k : Nat) (b : List Bool) : Prop := b.length = l.length ∧ AccP (memL l (valB b)) ∧ ∀ s, s < k → AccP (setL l s l.length) → wsum (setL l s l.length) < wsum (memL l (valB b)) ∨ (wsum (setL l s l.length) = wsum (memL l (valB b)) ∧ ((selB 0 b).length < (selB 0 (setB' s l.length)).length ∨ ((selB 0 b).length = (selB 0 (setB' s l.length)).length ∧ (setB' s l.length = b ∨ befL (selB 0 b) (selB 0 (setB' s l.length)) = true))))
theorem BestS.list {l : List Lo} {b : List Bool} (h : BestS l (2 ^ l.length) b) : BestL l b := by
  refine ⟨h.1, h.2.1, fun c hc ha => ?_⟩
  obtain ⟨s, h1, h2⟩ := set_all c
  rw [hc] at h1 h2
  have := h.2.2 s h1 (by rw [setL_mem, h2]; exact ha)
  rwa [setL_mem, h2] at this
theorem befL_tri {a b : List Int} : a.length = b.length → a = b ∨ befL a b = true ∨ befL b a = true := by
  induction a generalizing b with
  | nil => intro h; left; exact (List.length_eq_zero_iff.1 h.symm).symm
  | cons x a ih =>
    intro h
    cases b with
    | nil => simp at h
    | cons y b =>
      by_cases e : x = y
      · subst e
        rcases ih (b := b) (by simpa using h) with h1 | h1 | h1
        · left; rw [h1]
        · right; left; rw [befL, if_pos rfl]; exact h1
        · right; right; rw [befL, if_pos rfl]; exact h1
      · by_cases c : x < y
        · right; left; rw [befL, if_neg e]; exact decide_eq_true c
        · right; right; rw [befL, if_neg (Ne.symm e)]; exact decide_eq_true (by omega)
theorem befL_trans : ∀ {a b c : List Int}, befL a b = true → befL b c = true → befL a c = true
  | x :: a, y :: b, z :: c, h1, h2 => by
    rw [befL] at h1 h2 ⊢
    by_cases e1 : x = y
    · rw [if_pos e1] at h1
      by_cases e2 : y = z
      · rw [if_pos e2] at h2
        rw [if_pos (e1.trans e2)]; exact befL_trans h1 h2
      · rw [if_neg e2] at h2
        rw [if_neg (e1 ▸ e2), e1]; exact h2
    · rw [if_neg e1] at h1
      have a1 := of_decide_eq_true h1
      by_cases e2 : y = z
      · rw [← e2, if_neg e1]; exact h1
      · rw [if_neg e2] at h2
        have a2 := of_decide_eq_true h2
        rw [if_neg (by omega)]; exact decide_eq_true (by omega)
  | [], _, _, h1, _ => by simp [befL] at h1
  | _ :: _, [], _, h1, _ => by simp [befL] at h1
  | _ :: _, _ :: _, [], _, h2 => by simp [befL] at h2
theorem BestS.start {l : List Lo} : BestS l 0 (List.replicate l.length false) := by
  refine ⟨by simp, ?_, fun s h => by omega⟩
  rw [selX_bits (by simp)]
  have : ∀ n k, selB k (List.replicate n false) = [] := by
    intro n
    induction n with
    | zero => intro k; rfl
    | succ n ih => intro k; simp [List.replicate_succ, selB, ih]
  rw [this]
  intro i hi
  simp at hi
theorem selB_false : ∀ n k, selB k (List.replicate n false) = [] := by
  intro n
  induction n with
  | zero => intro k; rfl
  | succ n ih => intro k; simp [List.replicate_succ, selB, ih]
theorem BestS.skip {l : List Lo} {k : Nat} {b : List Bool} (h : BestS l k b) (hs : AccP (setL l k l.length) → wsum (setL l k l.length) < wsum (memL l (valB b)) ∨ (wsum (setL l k l.length) = wsum (memL l (valB b)) ∧ ((selB 0 b).length < (selB 0 (setB' k l.length)).length ∨ ((selB 0 b).length = (selB 0 (setB' k l.length)).length ∧ befL (selB 0 (setB' k l.length)) (selB 0 b) = false)))) : BestS l (k + 1) b := by
  refine ⟨h.1, h.2.1, fun s hs1 ha => ?_⟩
  by_cases e : s = k
  · subst e
    rcases hs ha with h1 | ⟨h1, h2⟩
    · exact .inl h1
    · refine .inr ⟨h1, ?_⟩
      rcases h2 with h2 | ⟨h2, h3⟩
      · exact .inl h2
      · refine .inr ⟨h2, ?_⟩
        rcases befL_tri h2 with h4 | h4 | h4
        · left; exact (selB_inj (by rw [h.1, setB_len]) h4).symm
        · right; exact h4
        · rw [h4] at h3; cases h3
  · exact h.2.2 s (by omega) ha
theorem BestS.take {l : List Lo} {k : Nat} {b : List Bool} (h : BestS l k b) (ha : AccP (setL l k l.length)) (hb : wsum (memL l (valB b)) < wsum (setL l k l.length) ∨ (wsum (setL l k l.length) = wsum (memL l (valB b)) ∧ ((selB 0 (setB' k l.length)).length < (selB 0 b).length ∨ ((selB 0 (setB' k l.length)).length = (selB 0 b).length ∧ befL (selB 0 (setB' k l.length)) (selB 0 b) = true)))) : BestS l (k + 1) (setB' k l.length) := by
  refine ⟨setB_len _, by rw [← setL_mem]; exact ha, fun s hs hac => ?_⟩
  rw [← setL_mem]
  by_cases e : s = k
  · subst e; exact .inr ⟨rfl, .inr ⟨rfl, .inl rfl⟩⟩
  · rcases h.2.2 s (by omega) hac with h1 | ⟨h1, h2⟩
    · rcases hb with hb | ⟨hb, _⟩
      · exact .inl (by omega)
      · exact .inl (by omega)
    · rcases hb with hb | ⟨hb, hb2⟩
      · exact .inl (by omega)
      · refine .inr ⟨by omega, ?_⟩
        rcases h2 with h2 | ⟨h2, h3⟩
        · rcases hb2 with hb2 | ⟨hb2, _⟩
          · exact .inl (by omega)
          · exact .inl (by omega)
        · rcases hb2 with hb2 | ⟨hb2, hb3⟩
          · exact .inl (by omega)
          · refine .inr ⟨by omega, .inr ?_⟩
            rcases h3 with h3 | h3
            · rw [h3]; exact hb3
            · exact befL_trans hb3 h3
theorem shlI {P : Program} {tm : Tm} {H : Heap} {q : Oper} {t u : TypeId} {x y : Operand} {n : Nat} (ho : q.op = .binOp .shl t x y u) (hx : ev P tm x = some (VI 1)) (hy : ev P tm y = some (VI (n : Int))) (h1 : n ≤ 20) : step1 P tm H q = some (VI ((2 ^ n : Nat) : Int), H, H.n) := by
  rw [step1_shl ho hx hy (by omega)]
  have hp : 2 ^ n ≤ 2 ^ 20 := Nat.pow_le_pow_right (by decide) h1
  rw [show IntKind.bits .i64 = 64 from rfl, Nat.min_eq_left (by omega), show ((n : Int)).toNat = n by omega, Int.one_mul]
  have h2 : ((2 ^ n : Nat) : Int) = (2 : Int) ^ n := by simp
  have hp' : 2 ^ n ≤ 1048576 := hp
  rw [← h2]
  generalize 2 ^ n = k at hp'
  rw [wrapI (by omega) (by omega)]
set_option maxHeartbeats 16000000 in
set_option maxRecDepth 100000 in
theorem lendR_spec [Orc] {B : Nat} {H : Heap} {v : Value} {l : List Lo} (hB : B ≤ H.n) (hl : RowS 4 H v (l.map Lol)) :
    CallB Try.prog B 41 [v] H (fun r H' => ((lonE l ≠ 0 ∧ r = .tuple #[nilS, VI 0, VI (lonE l)]) ∨ (lonE l = 0 ∧ ∃ q best, r = .tuple #[q, VI (wsum (memL l (valB best))), VI 0] ∧ Own 3 H' q ((selB 0 best).map VI) H.n ∧ BestL l best)) ∧ Keep H H') := by
  refine CV.enter callees false (Orc.hv rfl rfl) Try.func41 rfl (by kernel_rfl) (Nat.le_of_ble_eq_true rfl) hB ?_ (Orc.hw rfl rfl)
  repeat' first
    | refine CO.cons rfl ?_
    | refine CO.nil ?_
    | refine CV.seq ?_
    | refine CV.region callees ?_
    | fail
  refine (checkLoansR_spec hB hl).mono ?_
  rintro r H1 ⟨rfl, k1⟩
  have l1 := k1.1
  by_cases he : lonE l = 0
  rotate_left
  · repeat' first
      | refine CO.cons rfl ?_
      | refine CO.nil ?_
      | refine CV.seq ?_
      | refine CV.region callees ?_
      | refine CV.cond ?_
      | refine CV.ret ?_
      | (refine ⟨fun _ => ?_, fun _ => ?_⟩ <;> first | (exfalso; omega) | skip)
      | fail
    exact ⟨rfl, .inl ⟨he, rfl⟩, k1⟩
  have hl12 : l.length ≤ 12 := by
    unfold lonE at he
    split at he
    · cases he
    · omega
  have hfl : firstLo l = 0 := by
    unfold lonE at he
    rwa [if_neg (by omega)] at he
  have hw : ∀ x ∈ l, 0 ≤ x.w ∧ x.w ≤ 1000 := fun x hx => loE_w (firstLo_all hfl x hx)
  have hpow : 2 ^ l.length ≤ 2 ^ 12 := Nat.pow_le_pow_right (by decide) hl12
  obtain ⟨P, hP⟩ : ∃ P, 2 ^ l.length = P := ⟨_, rfl⟩
  rw [hP] at hpow
  have hP12 : P ≤ 4096 := hpow
  have hz : memL l (valB (List.replicate l.length false)) = [] := by rw [selX_bits (by simp), selB_false]; rfl
  repeat' first
    | refine CO.cons rfl ?_
    | refine CO.nil ?_
    | refine CV.seq ?_
    | refine CV.region callees ?_
    | refine CV.cond ?_
    | refine CV.block ?_
    | refine CV.skip ?_
    | (refine ⟨fun _ => ?_, fun _ => ?_⟩ <;> first | (exfalso; omega) | skip)
    | fail
  have hz1 : wsum (memL l (valB (List.replicate l.length false))) = 0 := by rw [hz]; rfl
  have hml : ∀ b : List Bool, b.length = l.length → ((selB 0 b).length ≤ l.length ∧ 0 ≤ wsum (memL l (valB b)) ∧ wsum (memL l (valB b)) ≤ 12000) := fun b hb => by
    have h1 := memL_sel hb
    have h2 := memL_len (l := l) (c := valB b)
    have h3 := wsum_bd (memL_w (c := valB b) hfl)
    omega
  refine CV.loopc ?_
  refine WCv.rounds callees false (α := Nat × Value × List Bool) (fun (c, q, b) => [(0, v), (6, q), (7, VI (wsum (memL l (valB b)))), (8, VI c)]) (fun (c, q, b) Hz => c ≤ P ∧ BestS l c b ∧ Own 3 Hz q ((selB 0 b).map VI) H.n ∧ Keep H Hz) (fun (c, q, b) => P - c) (0, nilS, List.replicate l.length false) (by repeat' first | exact trivial | refine ⟨rfl, ?_⟩ | refine ⟨slot_int (by (try simp only [Int.toNat_natCast]); omega), ?_⟩) ?_ ?_
  · exact ⟨by omega, BestS.start, .inl ⟨rfl, by rw [selB_false]; rfl⟩, k1⟩
  clear k1 l1
  rintro ⟨c, q, b⟩ Hx ⟨hc, hb, hq, kx⟩ hBx
  have hlx := hl.keep kx
  have lx := kx.1
  by_cases hc2 : c < P
  · have hbb := hml b hb.1
    have hcb := hml (setB' c l.length) (setB_len _)
    rw [← setL_mem] at hcb
    have hsm : wsum (setL l c l.length) = wsum (memL l (valB (setB' c l.length))) := by rw [setL_mem]
    have hqi : Ints Hx q (selB 0 b) := hq.row
    repeat' first
      | refine CO.cons rfl ?_
      | refine CO.nil ?_
      | refine CV.seq ?_
      | refine CV.region callees ?_
      | refine CV.cond ?_
      | refine CV.block ?_
      | refine CV.skip ?_
      | (refine ⟨_, lo_len hlx, ?_⟩)
      | (refine ⟨_, fun tm ha => shlI rfl rfl (ev_tmp ha rfl) (by omega), ?_⟩)
      | (rw [hP])
      | (refine ⟨fun _ => ?_, fun _ => ?_⟩ <;> first | (exfalso; omega) | skip)
      | fail
    refine (chosenR_spec (by omega) hlx (by omega) (by omega) hw).mono ?_
    rintro r H2 ⟨⟨hac, q', rfl, hq'⟩ | ⟨hac, rfl⟩, k2⟩
    rotate_left
    · repeat' first
        | refine CO.cons rfl ?_
        | refine CO.nil ?_
        | refine CV.seq ?_
        | refine CV.region callees ?_
        | refine CV.cond ?_
        | refine CV.skip ?_
        | refine CO.consG rfl ?_
        | refine ⟨(⟨by omega, by omega⟩ : inI64 _), ?_⟩
        | fail
      refine ⟨(c + 1, q, b), (by repeat' first | exact trivial | refine ⟨rfl, ?_⟩ | refine ⟨slot_int (by (try simp only [Int.toNat_natCast]); omega), ?_⟩), (by (try dsimp only); omega), ?_⟩
      exact ⟨by omega, hb.skip fun h => absurd h hac, hq.keep k2, kx.trans k2⟩
    have l2 := k2.1
    have hq2 : Own 3 H2 q ((selB 0 b).map VI) H.n := hq.keep k2
    have hq2' : Own 3 H2 q' ((selB 0 (setB' c l.length)).map VI) H.n := Own.lower hq' lx
    have kx2 := kx.trans k2
    have hqi2 : Ints H2 q (selB 0 b) := hq2.row
    have hqi2' : Ints H2 q' (selB 0 (setB' c l.length)) := hq2'.row
    by_cases c1 : wsum (memL l (valB b)) < wsum (setL l c l.length)
    · repeat' first
        | refine CO.cons rfl ?_
        | refine CO.nil ?_
        | refine CV.seq ?_
        | refine CV.region callees ?_
        | refine CV.cond ?_
        | refine CO.consG rfl ?_
        | refine ⟨(⟨by omega, by omega⟩ : inI64 _), ?_⟩
        | (refine ⟨fun _ => ?_, fun _ => ?_⟩ <;> first | (exfalso; omega) | skip)
        | fail
      refine ⟨(c + 1, q', setB' c l.length), (by repeat' first | exact trivial | refine ⟨rfl, ?_⟩ | refine ⟨slot_int (by (try simp only [Int.toNat_natCast]); omega), ?_⟩), (by (try dsimp only); omega), ?_⟩
      exact ⟨by omega, hb.take hac (.inl c1), hq2', kx2⟩
    by_cases c2 : wsum (setL l c l.length) = wsum (memL l (valB b))
    rotate_left
    · repeat' first
        | refine CO.cons rfl ?_
        | refine CO.nil ?_
        | refine CV.seq ?_
        | refine CV.region callees ?_
        | refine CV.cond ?_
        | refine CV.skip ?_
        | refine CO.consG rfl ?_
        | refine ⟨(⟨by omega, by omega⟩ : inI64 _), ?_⟩
        | (refine ⟨fun _ => ?_, fun _ => ?_⟩ <;> first | (exfalso; omega) | skip)
        | fail
      refine ⟨(c + 1, q, b), (by repeat' first | exact trivial | refine ⟨rfl, ?_⟩ | refine ⟨slot_int (by (try simp only [Int.toNat_natCast]); omega), ?_⟩), (by (try dsimp only); omega), ?_⟩
      exact ⟨by omega, hb.skip fun _ => .inl (by omega), hq2, kx2⟩
    by_cases c3 : (selB 0 (setB' c l.length)).length < (selB 0 b).length
    · repeat' first
        | refine CO.cons rfl ?_
        | refine CO.nil ?_
        | refine CV.seq ?_
        | refine CV.region callees ?_
        | refine CV.cond ?_
        | refine CO.consG rfl ?_
        | refine ⟨_, ints_len (by assumption), ?_⟩
        | refine ⟨(⟨by omega, by omega⟩ : inI64 _), ?_⟩
        | (refine ⟨fun _ => ?_, fun _ => ?_⟩ <;> first | (exfalso; omega) | skip)
        | fail
      refine ⟨(c + 1, q', setB' c l.length), (by repeat' first | exact trivial | refine ⟨rfl, ?_⟩ | refine ⟨slot_int (by (try simp only [Int.toNat_natCast]); omega), ?_⟩), (by (try dsimp only); omega), ?_⟩
      exact ⟨by omega, hb.take hac (.inr ⟨c2, .inl c3⟩), hq2', kx2⟩
    by_cases c4 : (selB 0 (setB' c l.length)).length = (selB 0 b).length
    rotate_left
    · repeat' first
        | refine CO.cons rfl ?_
        | refine CO.nil ?_
        | refine CV.seq ?_
        | refine CV.region callees ?_
        | refine CV.cond ?_
        | refine CV.skip ?_
        | refine CO.consG rfl ?_
        | refine ⟨_, ints_len (by assumption), ?_⟩
        | refine ⟨(⟨by omega, by omega⟩ : inI64 _), ?_⟩
        | (refine ⟨fun _ => ?_, fun _ => ?_⟩ <;> first | (exfalso; omega) | skip)
        | fail
      refine ⟨(c + 1, q, b), (by repeat' first | exact trivial | refine ⟨rfl, ?_⟩ | refine ⟨slot_int (by (try simp only [Int.toNat_natCast]); omega), ?_⟩), (by (try dsimp only); omega), ?_⟩
      exact ⟨by omega, hb.skip fun _ => .inr ⟨c2, .inl (by omega)⟩, hq2, kx2⟩
    repeat' first
      | refine CO.cons rfl ?_
      | refine CO.nil ?_
      | refine CV.seq ?_
      | refine CV.region callees ?_
      | refine CO.consG rfl ?_
      | refine ⟨_, ints_len (by assumption), ?_⟩
      | (refine ⟨fun _ => ?_, fun _ => ?_⟩ <;> first | (exfalso; omega) | skip)
      | fail
    refine (before_spec (by omega) hqi2' hqi2 c4 (by omega)).mono ?_
    cases c5 : befL (selB 0 (setB' c l.length)) (selB 0 b)
    · rintro r H3 ⟨rfl, k3⟩
      repeat' first
        | refine CO.cons rfl ?_
        | refine CO.nil ?_
        | refine CV.region callees ?_
        | refine CV.cond ?_
        | refine CV.skip ?_
        | refine CO.consG rfl ?_
        | refine ⟨(⟨by omega, by omega⟩ : inI64 _), ?_⟩
        | fail
      refine ⟨(c + 1, q, b), (by repeat' first | exact trivial | refine ⟨rfl, ?_⟩ | refine ⟨slot_int (by (try simp only [Int.toNat_natCast]); omega), ?_⟩), (by (try dsimp only); omega), ?_⟩
      exact ⟨by omega, hb.skip fun _ => .inr ⟨c2, .inr ⟨c4.symm, c5⟩⟩, hq2.keep k3, kx2.trans k3⟩
    · rintro r H3 ⟨rfl, k3⟩
      repeat' first
        | refine CO.cons rfl ?_
        | refine CO.nil ?_
        | refine CV.region callees ?_
        | refine CV.cond ?_
        | refine CO.consG rfl ?_
        | refine ⟨(⟨by omega, by omega⟩ : inI64 _), ?_⟩
        | fail
      refine ⟨(c + 1, q', setB' c l.length), (by repeat' first | exact trivial | refine ⟨rfl, ?_⟩ | refine ⟨slot_int (by (try simp only [Int.toNat_natCast]); omega), ?_⟩), (by (try dsimp only); omega), ?_⟩
      exact ⟨by omega, hb.take hac (.inr ⟨c2, .inr ⟨c4, c5⟩⟩), hq2'.keep k3, kx2.trans k3⟩
  obtain rfl : c = P := by omega
  repeat' first
    | refine CO.cons rfl ?_
    | refine CO.nil ?_
    | refine CV.seq ?_
    | refine CV.region callees ?_
    | refine CV.cond ?_
    | refine CV.exit ?_
    | refine CV.ret ?_
    | (refine ⟨_, lo_len hlx, ?_⟩)
    | (refine ⟨_, fun tm ha => shlI rfl rfl (ev_tmp ha rfl) (by omega), ?_⟩)
    | (rw [hP])
    | (refine ⟨fun _ => ?_, fun _ => ?_⟩ <;> first | (exfalso; omega) | skip)
    | fail
  exact ⟨by simp only [List.all_cons, List.all_nil, hq.notTuple]; rfl, .inr ⟨he, q, b, rfl, hq, (by rw [hP]; exact hb : BestS l (2 ^ l.length) b).list⟩, kx⟩
end Go.Proofs.Ytjjmnfgnlcbfhaa
