
/- Lend. -/
import Derived.Test.Ytjjmnfgnlcbfhaad3o
set_option linter.unusedVariables false
set_option linter.unusedSimpArgs false
namespace Go.Proofs.Ytjjmnfgnlcbfhaa
open Go.AI
def memL (l : List Lo) (c : Nat) : List Lo := selX (bitsB c l.length) l
/-- A choice that may be, and than which none of the first ones is better, nor as good and greater. -/
def BestN (l : List Lo) (k best : Nat) : Prop := best < 2 ^ l.length ∧ AccP (memL l best) ∧ ∀ c, c < k → AccP (memL l c) → wsum (memL l c) < wsum (memL l best) ∨ (wsum (memL l c) = wsum (memL l best) ∧ ((memL l best).length < (memL l c).length ∨ ((memL l best).length = (memL l c).length ∧ c ≤ best)))
theorem selX_zero {α : Type} {n : Nat} : ∀ {l : List α}, selX (bitsB 0 n) l = [] := by
  induction n with
  | zero => intro l; simp [bitsB, selX]
  | succ n ih =>
    intro l
    cases l with
    | nil => simp [bitsB, selX]
    | cons x t => simp [bitsB, selX, ih]
theorem BestN.start {l : List Lo} : BestN l 0 0 := by
  refine ⟨Nat.two_pow_pos _, ?_, fun c h => by omega⟩
  unfold memL
  rw [selX_zero]
  intro i hi
  simp at hi
theorem BestN.skip {l : List Lo} {k best : Nat} (h : BestN l k best) (hs : AccP (memL l k) → wsum (memL l k) < wsum (memL l best) ∨ (wsum (memL l k) = wsum (memL l best) ∧ (memL l best).length < (memL l k).length)) : BestN l (k + 1) best := by
  refine ⟨h.1, h.2.1, fun c hc ha => ?_⟩
  by_cases e : c = k
  · subst e
    rcases hs ha with h1 | ⟨h1, h2⟩
    · exact .inl h1
    · exact .inr ⟨h1, .inl h2⟩
  · exact h.2.2 c (by omega) ha
theorem BestN.take {l : List Lo} {k best : Nat} (h : BestN l k best) (hk : k < 2 ^ l.length) (ha : AccP (memL l k)) (hle : wsum (memL l best) ≤ wsum (memL l k)) (hn : wsum (memL l k) = wsum (memL l best) → (memL l k).length ≤ (memL l best).length) : BestN l (k + 1) k := by
  refine ⟨hk, ha, fun c hc hac => ?_⟩
  by_cases e : c = k
  · subst e; exact .inr ⟨rfl, .inr ⟨rfl, Nat.le_refl _⟩⟩
  · rcases h.2.2 c (by omega) hac with h1 | ⟨h1, h2⟩
    · exact .inl (by omega)
    · by_cases e2 : wsum (memL l k) = wsum (memL l best)
      · have h3 := hn e2
        refine .inr ⟨by omega, ?_⟩
        omega
      · exact .inl (by omega)
theorem memL_w {l : List Lo} {c : Nat} (h : firstLo l = 0) : ∀ x ∈ memL l c, 0 ≤ x.w ∧ x.w ≤ 1000 := fun x hx => loE_w (firstLo_all h x (selX_mem hx))
theorem memL_len {l : List Lo} {c : Nat} : (memL l c).length ≤ l.length := selX_len
set_option maxHeartbeats 16000000 in
set_option maxRecDepth 100000 in
theorem lend_spec [Orc] {B : Nat} {H : Heap} {v : Value} {l : List Lo} (hB : B ≤ H.n) (hl : RowS 4 H v (l.map Lol)) :
    CallB Try.prog B 40 [v] H (fun r H' => ((lonE l ≠ 0 ∧ r = .tuple #[nilS, VI 0, VI (lonE l)]) ∨ (lonE l = 0 ∧ ∃ q best, r = .tuple #[q, VI (wsum (memL l best)), VI 0] ∧ Own 3 H' q ((selB 0 (bitsB best l.length)).map VI) H.n ∧ BestN l (2 ^ l.length) best)) ∧ Keep H H') := by
  refine CV.enter callees false (Orc.hv rfl rfl) Try.func40 rfl (by kernel_rfl) (Nat.le_of_ble_eq_true rfl) hB ?_ (Orc.hw rfl rfl)
  repeat' first
    | refine CO.cons rfl ?_
    | refine CO.nil ?_
    | refine CV.seq ?_
    | refine CV.region callees ?_
    | fail
  refine (checkLoans_spec hB hl).mono ?_
  rintro r H1 ⟨rfl, k1⟩
  have l1 := k1.1
  by_cases he : lonE l = 0
  rotate_left
  · repeat' first
      | refine CO.cons rfl ?_
      | refine CO.nil ?_
      | refine CV.seq ?_
      | refine CV.region callees ?_
      | refine CV.cond ?_
      | refine CV.ret ?_
      | (refine ⟨fun _ => ?_, fun _ => ?_⟩ <;> first | (exfalso; omega) | skip)
      | fail
    exact ⟨rfl, .inl ⟨he, rfl⟩, k1⟩
  have hl12 : l.length ≤ 12 := by
    unfold lonE at he
    split at he
    · cases he
    · omega
  have hfl : firstLo l = 0 := by
    unfold lonE at he
    rwa [if_neg (by omega)] at he
  have hpow : 2 ^ l.length ≤ 2 ^ 12 := Nat.pow_le_pow_right (by decide) hl12
  have hl1 := hl.keep k1
  repeat' first
    | refine CO.cons rfl ?_
    | refine CO.nil ?_
    | refine CV.seq ?_
    | refine CV.region callees ?_
    | refine CV.cond ?_
    | refine CV.block ?_
    | refine CV.skip ?_
    | (refine ⟨_, lo_len hl1, ?_⟩)
    | (refine ⟨_, fun tm ha => shlU rfl rfl (ev_tmp ha rfl) (by omega) (by omega), ?_⟩)
    | (refine ⟨fun _ => ?_, fun _ => ?_⟩ <;> first | (exfalso; omega) | skip)
    | fail
  obtain ⟨P, hP⟩ : ∃ P, 2 ^ ((l.length : Int)).toNat = P := ⟨_, rfl⟩
  have hP' : 2 ^ l.length = P := by rw [← hP]; rfl
  rw [hP]
  rw [hP'] at hpow
  have hP12 : P ≤ 4096 := hpow
  have hz : memL l 0 = [] := selX_zero
  have hz1 : wsum (memL l 0) = 0 := by rw [hz]; rfl
  have hz2 : (memL l 0).length = 0 := by rw [hz]; rfl
  refine CV.loopc ?_
  refine WCv.rounds callees false (α := Nat × Nat) (fun (c, best) => [(0, v), (3, VI (wsum (memL l best))), (6, VU (best : Int)), (7, VI (memL l best).length), (20, VU (P : Int)), (21, VU (c : Int))]) (fun (c, best) Hz => c ≤ P ∧ BestN l c best ∧ Keep H Hz) (fun (c, best) => P - c) (0, 0) (by repeat' first | exact trivial | refine ⟨rfl, ?_⟩ | refine ⟨slot_int (by (try simp only [Int.toNat_natCast]); omega), ?_⟩) ?_ ?_
  · exact ⟨by omega, BestN.start, k1⟩
  clear hl1 k1 l1
  rintro ⟨c, best⟩ Hx ⟨hc, hb, kx⟩ hBx
  have hlx := hl.keep kx
  have lx := kx.1
  by_cases hc2 : c < P
  · have hml := memL_len (l := l) (c := c)
    have hmb := memL_len (l := l) (c := best)
    have w1 := wsum_bd (memL_w (c := c) hfl)
    have w2 := wsum_bd (memL_w (c := best) hfl)
    repeat' first
      | refine CO.cons rfl ?_
      | refine CO.nil ?_
      | refine CV.seq ?_
      | refine CV.region callees ?_
      | refine CV.cond ?_
      | refine CV.block ?_
      | refine CV.skip ?_
      | (refine ⟨fun _ => ?_, fun _ => ?_⟩ <;> first | (exfalso; omega) | skip)
      | fail
    refine (chosenLo_spec (by omega) hlx (by omega) (by omega)).mono ?_
    rintro q H2 ⟨hq, k2⟩
    have l2 := k2.1
    have hq' : OwnLo H2 q (memL l c) Hx.n := hq
    repeat' first
      | refine CO.cons rfl ?_
      | refine CO.nil ?_
      | refine CV.seq ?_
      | refine CV.region callees ?_
      | fail
    refine (worthOf_spec (l := memL l c) (by omega) hq'.row (by omega) (memL_w hfl)).mono ?_
    rintro r H3 ⟨rfl, k3⟩
    have l3 := k3.1
    have hq3 := hq'.row.keep k3
    have k23 := k2.trans k3
    by_cases c1 : wsum (memL l c) < wsum (memL l best)
    · repeat' first
        | refine CO.cons rfl ?_
        | refine CO.nil ?_
        | refine CV.seq ?_
        | refine CV.region callees ?_
        | refine CV.cond ?_
        | refine CV.exit ?_
        | refine CO.consG rfl ?_
        | (refine ⟨fun _ => ?_, fun _ => ?_⟩ <;> first | (exfalso; omega) | skip)
        | fail
      intro uu hu
      rw [wrapU (by omega) (by omega)] at hu
      subst hu
      repeat' first
        | refine CO.cons rfl ?_
        | refine CO.nil ?_
        | fail
      refine ⟨(c + 1, best), (by repeat' first | exact trivial | refine ⟨rfl, ?_⟩ | refine ⟨slot_int (by (try simp only [Int.toNat_natCast]); omega), ?_⟩), (by (try dsimp only); omega), ?_⟩
      exact ⟨by omega, hb.skip fun _ => .inl c1, kx.trans k23⟩
    by_cases c2 : wsum (memL l c) = wsum (memL l best) ∧ (memL l best).length < (memL l c).length
    · obtain ⟨c2, c3⟩ := c2
      repeat' first
        | refine CO.cons rfl ?_
        | refine CO.nil ?_
        | refine CV.seq ?_
        | refine CV.region callees ?_
        | refine CV.cond ?_
        | refine CV.exit ?_
        | refine CO.consG rfl ?_
        | (refine ⟨_, lo_len hq3, ?_⟩)
        | (refine ⟨fun _ => ?_, fun _ => ?_⟩ <;> first | (exfalso; omega) | skip)
        | fail
      intro uu hu
      rw [wrapU (by omega) (by omega)] at hu
      subst hu
      repeat' first
        | refine CO.cons rfl ?_
        | refine CO.nil ?_
        | fail
      refine ⟨(c + 1, best), (by repeat' first | exact trivial | refine ⟨rfl, ?_⟩ | refine ⟨slot_int (by (try simp only [Int.toNat_natCast]); omega), ?_⟩), (by (try dsimp only); omega), ?_⟩
      exact ⟨by omega, hb.skip fun _ => .inr ⟨c2, c3⟩, kx.trans k23⟩
    · by_cases c4 : wsum (memL l c) = wsum (memL l best)
      · have c5 : ¬ (memL l best).length < (memL l c).length := fun h => c2 ⟨c4, h⟩
        repeat' first
          | refine CO.cons rfl ?_
          | refine CO.nil ?_
          | refine CV.seq ?_
          | refine CV.region callees ?_
          | refine CO.consG rfl ?_
          | (refine ⟨_, lo_len hq3, ?_⟩)
          | (refine ⟨fun _ => ?_, fun _ => ?_⟩ <;> first | (exfalso; omega) | skip)
          | fail
        refine (accepted_spec (l := memL l c) (by omega) hq3 (by omega)).mono ?_
        rintro r H4 ⟨⟨a, rfl, ha⟩, k4⟩
        have k24 := k23.trans k4
        cases a with
        | false =>
          repeat' first
            | refine CO.cons rfl ?_
            | refine CO.nil ?_
            | refine CV.region callees ?_
            | refine CV.cond ?_
            | refine CV.exit ?_
            | refine CO.consG rfl ?_
            | fail
          intro uu hu
          rw [wrapU (by omega) (by omega)] at hu
          subst hu
          repeat' first
            | refine CO.cons rfl ?_
            | refine CO.nil ?_
            | fail
          refine ⟨(c + 1, best), (by repeat' first | exact trivial | refine ⟨rfl, ?_⟩ | refine ⟨slot_int (by (try simp only [Int.toNat_natCast]); omega), ?_⟩), (by (try dsimp only); omega), ?_⟩
          exact ⟨by omega, hb.skip (fun h => by have := ha.2 h; cases this), kx.trans k24⟩
        | true =>
          repeat' first
            | refine CO.cons rfl ?_
            | refine CO.nil ?_
            | refine CV.region callees ?_
            | refine CV.cond ?_
            | refine CV.skip ?_
            | refine CO.consG rfl ?_
            | (refine ⟨_, lo_len (hq3.keep k4), ?_⟩)
            | fail
          intro uu hu
          rw [wrapU (by omega) (by omega)] at hu
          subst hu
          repeat' first
            | refine CO.cons rfl ?_
            | refine CO.nil ?_
            | fail
          refine ⟨(c + 1, c), (by repeat' first | exact trivial | refine ⟨rfl, ?_⟩ | refine ⟨slot_int (by (try simp only [Int.toNat_natCast]); omega), ?_⟩), (by (try dsimp only); omega), ?_⟩
          exact ⟨by omega, hb.take (by omega) (ha.1 rfl) (by omega) (fun _ => by omega), kx.trans k24⟩
      · repeat' first
          | refine CO.cons rfl ?_
          | refine CO.nil ?_
          | refine CV.seq ?_
          | refine CV.region callees ?_
          | refine CO.consG rfl ?_
          | (refine ⟨fun _ => ?_, fun _ => ?_⟩ <;> first | (exfalso; omega) | skip)
          | fail
        refine (accepted_spec (l := memL l c) (by omega) hq3 (by omega)).mono ?_
        rintro r H4 ⟨⟨a, rfl, ha⟩, k4⟩
        have k24 := k23.trans k4
        cases a with
        | false =>
          repeat' first
            | refine CO.cons rfl ?_
            | refine CO.nil ?_
            | refine CV.region callees ?_
            | refine CV.cond ?_
            | refine CV.exit ?_
            | refine CO.consG rfl ?_
            | fail
          intro uu hu
          rw [wrapU (by omega) (by omega)] at hu
          subst hu
          repeat' first
            | refine CO.cons rfl ?_
            | refine CO.nil ?_
            | fail
          refine ⟨(c + 1, best), (by repeat' first | exact trivial | refine ⟨rfl, ?_⟩ | refine ⟨slot_int (by (try simp only [Int.toNat_natCast]); omega), ?_⟩), (by (try dsimp only); omega), ?_⟩
          exact ⟨by omega, hb.skip (fun h => by have := ha.2 h; cases this), kx.trans k24⟩
        | true =>
          repeat' first
            | refine CO.cons rfl ?_
            | refine CO.nil ?_
            | refine CV.region callees ?_
            | refine CV.cond ?_
            | refine CV.skip ?_
            | refine CO.consG rfl ?_
            | (refine ⟨_, lo_len (hq3.keep k4), ?_⟩)
            | fail
          intro uu hu
          rw [wrapU (by omega) (by omega)] at hu
          subst hu
          repeat' first
            | refine CO.cons rfl ?_
            | refine CO.nil ?_
            | fail
          refine ⟨(c + 1, c), (by repeat' first | exact trivial | refine ⟨rfl, ?_⟩ | refine ⟨slot_int (by (try simp only [Int.toNat_natCast]); omega), ?_⟩), (by (try dsimp only); omega), ?_⟩
          exact ⟨by omega, hb.take (by omega) (ha.1 rfl) (by omega) (fun h => absurd h c4), kx.trans k24⟩
  obtain rfl : c = P := by omega
  have hbl := bitsB_len best l.length
  have hbest := hb.1
  repeat' first
    | refine CO.cons rfl ?_
    | refine CO.nil ?_
    | refine CV.seq ?_
    | refine CV.region callees ?_
    | refine CV.cond ?_
    | refine CV.exit ?_
    | (refine ⟨_, lo_len hlx, ?_⟩)
    | (refine ⟨fun _ => ?_, fun _ => ?_⟩ <;> first | (exfalso; omega) | skip)
    | fail
  refine ⟨_, _, make_row un22 one3 (by omega) l.length (by omega), ?_⟩
  generalize hs5 : Heap.new Hx _ = H5
  have hg5 := new_get hs5
  have k5 := new_keep hs5
  have n5 := new_n hs5
  obtain ⟨b5, hbn5⟩ : ∃ b, Heap.n Hx = b := ⟨_, rfl⟩
  rw [hbn5] at hg5 n5 ⊢
  rw [← List.map_replicate] at hg5
  repeat' first
    | refine CO.cons rfl ?_
    | refine CO.nil ?_
    | refine CV.seq ?_
    | refine CV.region callees ?_
    | refine CV.block ?_
    | (refine ⟨_, sl_len, ?_⟩)
    | fail
  refine CV.loopc ?_
  refine WCv.rounds callees false (α := Nat × List Int) (fun (i, xs) => [(3, VI (wsum (memL l best))), (6, VU (best : Int)), (11, .slice (some ⟨b5, 0, none⟩) l.length 0), (57, VI l.length), (58, VI i)]) (fun (i, xs) Hz => i ≤ l.length ∧ xs.length = l.length ∧ (∀ j, j < i → xs[j]! = (j : Int)) ∧ Hz.get b5 = some (.cells (xs.map VI) 3 2) ∧ Keep H Hz ∧ b5 < Hz.n) (fun (i, xs) => l.length - i) (0, List.replicate l.length (0 : Int)) (by repeat' first | exact trivial | refine ⟨rfl, ?_⟩ | refine ⟨slot_int (by (try simp only [Int.toNat_natCast]); omega), ?_⟩) ?_ ?_
  · exact ⟨by omega, by simp, fun j h => by omega, hg5, kx.trans k5, by omega⟩
  clear hg5 hlx
  rintro ⟨i, xs⟩ Hy ⟨hi, hxl, hxi, hgy, ky, ly⟩ hBy
  by_cases hi2 : i < l.length
  · repeat' first
      | refine CO.cons rfl ?_
      | refine CO.nil ?_
      | refine CV.seq ?_
      | refine CV.region callees ?_
      | refine CV.cond ?_
      | refine CV.block ?_
      | refine CV.skip ?_
      | (refine ⟨_, sl_adr (by omega) (by omega), ?_⟩)
      | (refine ⟨fun _ => ?_, fun _ => ?_⟩ <;> first | (exfalso; omega) | skip)
      | fail
    refine ⟨_, _, arr_put hgy (by omega), by omega, ?_⟩
    generalize hs7 : Heap.set Hy b5 _ = H7
    have hg7 := set_get hs7
    have n7 := set_n hs7
    have o7 := set_old hs7
    rw [show ((i : Int)).toNat = i by omega] at hg7
    repeat' first
      | refine CO.cons rfl ?_
      | refine CO.nil ?_
      | refine CV.region callees ?_
      | refine ⟨(⟨by omega, by omega⟩ : inI64 _), ?_⟩
      | fail
    refine ⟨(i + 1, xs.set i (i : Int)), (by repeat' first | exact trivial | refine ⟨rfl, ?_⟩ | refine ⟨slot_int (by (try simp only [Int.toNat_natCast]); omega), ?_⟩), (by (try dsimp only); omega), ?_⟩
    refine ⟨by omega, by rw [List.length_set]; exact hxl, fun j hj => ?_, hg7, keep_put ky (by omega) o7 n7, by omega⟩
    rw [get_set (by omega)]
    by_cases e : i = j
    · rw [if_pos e, e]
    · rw [if_neg e]; exact hxi j (by omega)
  obtain rfl : i = l.length := by omega
  have hxs : xs = (List.range' 0 l.length).map fun (i : Nat) => (i : Int) := by
    apply List.ext_getElem (by simp [hxl])
    intro j h1 h2
    have := hxi j (by omega)
    rw [getElem!_pos xs j h1] at this
    rw [this]; simp
  have hrow : Ints Hy (.slice (some ⟨b5, 0, none⟩) l.length 0) xs := .inr (.inr ⟨b5, 0, 0, xs.map VI, 3, 2, by rw [List.length_map, hxl], ly, hgy, by decide, by simp, fun j w hj => by simpa using hj⟩)
  repeat' first
    | refine CO.cons rfl ?_
    | refine CO.nil ?_
    | refine CV.seq ?_
    | refine CV.region callees ?_
    | refine CV.cond ?_
    | refine CV.exit ?_
    | (refine ⟨fun _ => ?_, fun _ => ?_⟩ <;> first | (exfalso; omega) | skip)
    | fail
  refine (chosenI_spec (by omega) hrow (by omega) (by omega)).mono ?_
  rintro q H8 ⟨hq, k8⟩
  have hnum : selX (bitsB best xs.length) xs = selB 0 (bitsB best l.length) := by
    rw [hxl]
    have := selX_nums (bs := bitsB best l.length) (k := 0)
    rw [hbl, ← hxs] at this
    exact this
  rw [hnum] at hq
  have lyx := ky.1
  repeat' first
    | refine CO.cons rfl ?_
    | refine CO.nil ?_
    | refine CV.ret ?_
    | fail
  exact ⟨by simp only [List.all_cons, List.all_nil, hq.notTuple]; rfl, .inr ⟨he, q, best, rfl, Own.lower hq lyx, by rw [hP']; exact hb⟩, ky.trans k8⟩
end Go.Proofs.Ytjjmnfgnlcbfhaa
