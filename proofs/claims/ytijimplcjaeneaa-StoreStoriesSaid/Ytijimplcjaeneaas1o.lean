
/- The law's stories: who is the holder, whether links follow one another, all orders. -/
import Derived.Test.Ytijimplcjaeneaas0o
import Derived.Test.Ytijimplcjaeneaai1o
set_option linter.unusedVariables false
set_option linter.unusedSimpArgs false
namespace Go.Proofs.Ytijimplcjaeneaa
open Go.AI
theorem dr_ats {α : Type} [Inhabited α] {l : List α} {i : Nat} (h : i < l.length) : l.drop i = l[i]! :: l.drop (i + 1) := by rw [List.drop_eq_getElem_cons h, getElem!_pos l i h]
theorem raw_len {mk lo hi : Int} {ls : List Lk} {o : List Int} : (raw mk lo hi ls o).length = o.length + 1 := by simp [raw, rawL]
theorem raw_succ {mk lo hi : Int} {ls : List Lk} {o : List Int} {j : Nat} (h : j < o.length) : (raw mk lo hi ls o)[j + 1]! = ⟨o[j]!, ls[(o[j]!).toNat]!.t, ls[(o[j]!).toNat]!.lo, ls[(o[j]!).toNat]!.hi⟩ := by
  unfold raw rawL
  rw [List.getElem!_cons_succ, getElem!_pos _ j (by rw [List.length_map]; exact h), List.getElem_map, getElem!_pos o j h]
theorem raw_zero {mk lo hi : Int} {ls : List Lk} {o : List Int} : (raw mk lo hi ls o)[0]! = ⟨-1, mk, lo, hi⟩ := rfl
theorem lk_fs {H : Heap} {v : Value} {ls : List Lk} (hr : RowS 4 H v (ls.map Lkl)) {j : Nat} (hj : j < ls.length) : (afieldAddr Try.prog 28 (elemS v 4 j) 0 = some (fieldOf (elemS v 4 j) 0) ∧ aload Try.prog 3 H (fieldOf (elemS v 4 j) 0) = some (VI ls[j]!.f)) ∧ (afieldAddr Try.prog 28 (elemS v 4 j) 1 = some (fieldOf (elemS v 4 j) 1) ∧ aload Try.prog 3 H (fieldOf (elemS v 4 j) 1) = some (VI ls[j]!.t)) :=
  ⟨⟨hr.faddr foL0 (by decide) (by rw [List.length_map]; exact hj), hr.fload ag3 (lk_at hj) rfl⟩, ⟨hr.faddr foL1 (by decide) (by rw [List.length_map]; exact hj), hr.fload ag3 (lk_at hj) rfl⟩⟩
set_option maxHeartbeats 16000000 in
set_option maxRecDepth 100000 in
theorem holderOn_spec {B : Nat} {H : Heap} {mk lo hi x : Int} {sv ov dv : Value} {ls : List Lk} {o s : List Int} (hB : B ≤ H.n) (hr : RowS 4 H sv (ls.map Lkl)) (ho : Ints H ov o) (hs : Ints H dv s) (hok : ∀ k ∈ o, 0 ≤ k ∧ k < ls.length) (hsl : s.length = o.length + 1) (hon : o.length ≤ 7) :
    CallB Try.prog B 117 [Chv mk lo hi sv, ov, dv, VI x] H (fun r H' => r = VI (hoS (raw mk lo hi ls o) s x (-1)) ∧ Keep H H') := by
  refine CV.enter callees false rfl Try.func117 rfl (by kernel_rfl) (Nat.le_of_ble_eq_true rfl) hB ?_
  repeat' first
    | refine CO.cons rfl ?_
    | refine CV.seq ?_
    | refine CV.region callees ?_
    | fail
  refine ⟨(by simp only [notTuple]), ?_⟩
  rw [boxCh hr.cells.1]
  generalize hs0 : Heap.new H _ = H0
  have hg0 := new_get hs0
  have k0 := new_keep hs0
  have n0 := new_n hs0
  obtain ⟨b0, hbn0⟩ : ∃ b, Heap.n H = b := ⟨_, rfl⟩
  rw [hbn0] at hg0 n0 ⊢
  have hr0 := hr.keep k0
  have ho0 : Ints H0 ov o := ho.keep k0
  have hs0 : Ints H0 dv s := hs.keep k0
  repeat' first
    | refine CO.cons rfl ?_
    | refine CO.nil ?_
    | refine CV.seq ?_
    | refine CV.region callees ?_
    | refine CV.block ?_
    | fail
  refine CV.loopc ?_
  refine WCv.rounds callees false (α := Nat × Int) (fun (i, h) => [(1, ov), (2, dv), (3, VI x), (4, .pointer (some ⟨b0, 0, none⟩)), (9, VI h), (10, VI i)]) (fun (i, h) Hz => i ≤ s.length ∧ hoS ((raw mk lo hi ls o).drop i) (s.drop i) x h = hoS (raw mk lo hi ls o) s x (-1) ∧ Hz = H0) (fun (i, h) => s.length - i) (0, -1) (by repeat' first | exact trivial | refine ⟨rfl, ?_⟩ | refine ⟨slot_int (by (try simp only [Int.toNat_natCast]); omega), ?_⟩) ?_ ?_
  · exact ⟨by omega, rfl, rfl⟩
  rintro ⟨i, h⟩ Hx ⟨hi', hw, rfl⟩ hBx
  by_cases hi2 : i < s.length
  · have hel : i < (raw mk lo hi ls o).length := by rw [raw_len]; omega
    rw [dr_ats hi2, dr_ats hel, hoS] at hw
    have hsi : s[(i : Int).toNat]! = s[i]! := rfl
    by_cases c : x < s[i]!
    · rw [if_pos c] at hw
      repeat' first
        | refine CO.cons rfl ?_
        | refine CO.nil ?_
        | refine CV.seq ?_
        | refine CV.region callees ?_
        | refine CV.cond ?_
        | refine CV.block ?_
        | refine CV.skip ?_
        | refine CV.ret ?_
        | refine ⟨_, ints_len (by assumption), ?_⟩
        | refine ⟨_, ints_addr (by assumption) (by omega) (by omega), ?_⟩
        | refine ⟨_, ints_load (by assumption) (by omega) (by omega), ?_⟩
        | (refine ⟨fun _ => ?_, fun _ => ?_⟩ <;> first | (exfalso; omega) | skip)
        | fail
      exact ⟨rfl, by rw [← hw], k0⟩
    · rw [if_neg c] at hw
      by_cases hi0 : i = 0
      · subst hi0
        rw [raw_zero] at hw
        repeat' first
          | refine CO.cons rfl ?_
          | refine CO.nil ?_
          | refine CV.seq ?_
          | refine CV.region callees ?_
          | refine CV.cond ?_
          | refine CV.block ?_
          | refine CV.skip ?_
          | refine ⟨_, ints_len (by assumption), ?_⟩
          | refine ⟨_, ints_addr (by assumption) (by omega) (by omega), ?_⟩
          | refine ⟨_, ints_load (by assumption) (by omega) (by omega), ?_⟩
          | refine ⟨(⟨by omega, by omega⟩ : inI64 _), ?_⟩
          | (refine ⟨_, fS foC0 (by decide), ?_⟩)
          | (refine ⟨_, cell_load ag3 hg0 rfl, ?_⟩)
          | (refine ⟨fun _ => ?_, fun _ => ?_⟩ <;> first | (exfalso; omega) | skip)
          | fail
        refine ⟨(0 + 1, mk), (by repeat' first | exact trivial | refine ⟨rfl, ?_⟩ | refine ⟨slot_int (by (try simp only [Int.toNat_natCast]); omega), ?_⟩), (by (try dsimp only); omega), ?_⟩
        exact ⟨by omega, hw, rfl⟩
      · obtain ⟨j, rfl⟩ : ∃ j, i = j + 1 := ⟨i - 1, by omega⟩
        have hjo : j < o.length := by omega
        have hkj := hok o[j]! (by rw [getElem!_pos o j hjo]; exact List.getElem_mem _)
        rw [raw_succ hjo] at hw
        have hoj : o[(((j + 1 : Nat) : Int) - 1).toNat]! = o[j]! := by congr 1; omega
        have hfa := lk_fs (ls := ls) hr0 (j := (o[j]!).toNat) (by omega)
        repeat' first
          | refine CO.cons rfl ?_
          | refine CO.nil ?_
          | refine CV.seq ?_
          | refine CV.region callees ?_
          | refine CV.cond ?_
          | refine CV.block ?_
          | refine CV.skip ?_
          | refine CV.draw callees (by decide +kernel) ?_
          | refine CH.cons rfl ?_
          | refine CH.nil ?_
          | refine ⟨_, ints_len (by assumption), ?_⟩
          | refine ⟨_, ints_addr (by assumption) (by omega) (by omega), ?_⟩
          | refine ⟨_, ints_load (by assumption) (by omega) (by omega), ?_⟩
          | refine ⟨(⟨by omega, by omega⟩ : inI64 _), ?_⟩
          | (refine ⟨_, fS foC0 (by decide), ?_⟩)
          | (refine ⟨_, cell_load ag3 hg0 rfl, ?_⟩)
          | (refine ⟨_, fS foC2 (by decide), ?_⟩)
          | (rw [hoj])
          | (refine ⟨_, ls_addr hr0 (by omega) (by omega), ?_⟩)
          | (refine ⟨_, hfa.2.1, ?_⟩)
          | (refine ⟨_, hfa.2.2, ?_⟩)
          | (refine ⟨fun _ => ?_, fun _ => ?_⟩ <;> first | (exfalso; omega) | skip)
          | fail
        refine ⟨(j + 1 + 1, ls[(o[j]!).toNat]!.t), (by repeat' first | exact trivial | refine ⟨rfl, ?_⟩ | refine ⟨slot_int (by (try simp only [Int.toNat_natCast]); omega), ?_⟩), (by (try dsimp only); omega), ?_⟩
        exact ⟨by omega, hw, rfl⟩
  obtain rfl : i = s.length := by omega
  rw [List.drop_length] at hw
  have hw' : h = hoS (raw mk lo hi ls o) s x (-1) := by
    rw [← hw]
    cases (raw mk lo hi ls o).drop s.length <;> rfl
  repeat' first
    | refine CO.cons rfl ?_
    | refine CO.nil ?_
    | refine CV.seq ?_
    | refine CV.region callees ?_
    | refine CV.cond ?_
    | refine CV.exit ?_
    | refine CV.ret ?_
    | refine ⟨_, ints_len (by assumption), ?_⟩
    | (refine ⟨fun _ => ?_, fun _ => ?_⟩ <;> first | (exfalso; omega) | skip)
    | fail
  exact ⟨rfl, by rw [← hw'], k0⟩
set_option maxHeartbeats 16000000 in
set_option maxRecDepth 100000 in
theorem linked_spec {B : Nat} {H : Heap} {mk lo hi : Int} {sv ov : Value} {ls : List Lk} {o : List Int} (hB : B ≤ H.n) (hr : RowS 4 H sv (ls.map Lkl)) (ho : Ints H ov o) (hok : ∀ k ∈ o, 0 ≤ k ∧ k < ls.length) (hon : o.length ≤ 7) :
    CallB Try.prog B 61 [Chv mk lo hi sv, ov] H (fun r H' => r = .bool (linkB ls mk o) ∧ Keep H H') := by
  refine CV.enter callees false rfl Try.func61 rfl (by kernel_rfl) (Nat.le_of_ble_eq_true rfl) hB ?_
  repeat' first
    | refine CO.cons rfl ?_
    | refine CV.seq ?_
    | refine CV.region callees ?_
    | fail
  refine ⟨(by simp only [notTuple]), ?_⟩
  rw [boxCh hr.cells.1]
  generalize hs0 : Heap.new H _ = H0
  have hg0 := new_get hs0
  have k0 := new_keep hs0
  have n0 := new_n hs0
  obtain ⟨b0, hbn0⟩ : ∃ b, Heap.n H = b := ⟨_, rfl⟩
  rw [hbn0] at hg0 n0 ⊢
  have hr0 := hr.keep k0
  have ho0 : Ints H0 ov o := ho.keep k0
  repeat' first
    | refine CO.cons rfl ?_
    | refine CO.nil ?_
    | refine CV.seq ?_
    | refine CV.region callees ?_
    | refine CV.block ?_
    | (refine ⟨_, fS foC0 (by decide), ?_⟩)
    | (refine ⟨_, cell_load ag3 hg0 rfl, ?_⟩)
    | fail
  refine CV.loopc ?_
  refine WCv.rounds callees false (α := Nat × Int) (fun (i, h) => [(1, ov), (2, .pointer (some ⟨b0, 0, none⟩)), (5, VI h), (6, VI i)]) (fun (i, h) Hz => i ≤ o.length ∧ linkB ls h (o.drop i) = linkB ls mk o ∧ Hz = H0) (fun (i, h) => o.length - i) (0, mk) (by repeat' first | exact trivial | refine ⟨rfl, ?_⟩ | refine ⟨slot_int (by (try simp only [Int.toNat_natCast]); omega), ?_⟩) ?_ ?_
  · exact ⟨by omega, rfl, rfl⟩
  rintro ⟨i, h⟩ Hx ⟨hi', hw, rfl⟩ hBx
  by_cases hi2 : i < o.length
  · rw [dr_ats hi2, linkB] at hw
    have hki := hok o[i]! (by rw [getElem!_pos o i hi2]; exact List.getElem_mem _)
    have hoi : o[(i : Int).toNat]! = o[i]! := rfl
    have hfa := lk_fs (ls := ls) hr0 (j := (o[i]!).toNat) (by omega)
    by_cases c : ls[(o[i]!).toNat]!.f = h
    · rw [decide_eq_true c, Bool.true_and] at hw
      repeat' first
        | refine CO.cons rfl ?_
        | refine CO.nil ?_
        | refine CV.seq ?_
        | refine CV.region callees ?_
        | refine CV.cond ?_
        | refine CV.block ?_
        | refine CV.skip ?_
        | refine CV.draw callees (by decide +kernel) ?_
        | refine CH.cons rfl ?_
        | refine CH.nil ?_
        | refine ⟨_, ints_len (by assumption), ?_⟩
        | refine ⟨_, ints_addr (by assumption) (by omega) (by omega), ?_⟩
        | refine ⟨_, ints_load (by assumption) (by omega) (by omega), ?_⟩
        | refine ⟨(⟨by omega, by omega⟩ : inI64 _), ?_⟩
        | (refine ⟨_, fS foC2 (by decide), ?_⟩)
        | (refine ⟨_, cell_load agLs hg0 rfl, ?_⟩)
        | (rw [hoi])
        | (refine ⟨_, ls_addr hr0 (by omega) (by omega), ?_⟩)
        | (refine ⟨_, hfa.1.1, ?_⟩)
        | (refine ⟨_, hfa.1.2, ?_⟩)
        | (refine ⟨_, hfa.2.1, ?_⟩)
        | (refine ⟨_, hfa.2.2, ?_⟩)
        | (refine ⟨fun _ => ?_, fun _ => ?_⟩ <;> first | (exfalso; omega) | skip)
        | fail
      refine ⟨(i + 1, ls[(o[i]!).toNat]!.t), (by repeat' first | exact trivial | refine ⟨rfl, ?_⟩ | refine ⟨slot_int (by (try simp only [Int.toNat_natCast]); omega), ?_⟩), (by (try dsimp only); omega), ?_⟩
      exact ⟨by omega, hw, rfl⟩
    · rw [decide_eq_false c, Bool.false_and] at hw
      repeat' first
        | refine CO.cons rfl ?_
        | refine CO.nil ?_
        | refine CV.seq ?_
        | refine CV.region callees ?_
        | refine CV.cond ?_
        | refine CV.block ?_
        | refine CV.skip ?_
        | refine CV.ret ?_
        | refine CV.draw callees (by decide +kernel) ?_
        | refine CH.cons rfl ?_
        | refine CH.nil ?_
        | refine ⟨_, ints_len (by assumption), ?_⟩
        | refine ⟨_, ints_addr (by assumption) (by omega) (by omega), ?_⟩
        | refine ⟨_, ints_load (by assumption) (by omega) (by omega), ?_⟩
        | (refine ⟨_, fS foC2 (by decide), ?_⟩)
        | (refine ⟨_, cell_load agLs hg0 rfl, ?_⟩)
        | (rw [hoi])
        | (refine ⟨_, ls_addr hr0 (by omega) (by omega), ?_⟩)
        | (refine ⟨_, hfa.1.1, ?_⟩)
        | (refine ⟨_, hfa.1.2, ?_⟩)
        | (refine ⟨fun _ => ?_, fun _ => ?_⟩ <;> first | (exfalso; omega) | skip)
        | fail
      exact ⟨rfl, by rw [← hw], k0⟩
  obtain rfl : i = o.length := by omega
  rw [List.drop_length] at hw
  repeat' first
    | refine CO.cons rfl ?_
    | refine CO.nil ?_
    | refine CV.seq ?_
    | refine CV.region callees ?_
    | refine CV.cond ?_
    | refine CV.exit ?_
    | refine CV.ret ?_
    | refine ⟨_, ints_len (by assumption), ?_⟩
    | (refine ⟨fun _ => ?_, fun _ => ?_⟩ <;> first | (exfalso; omega) | skip)
    | fail
  exact ⟨rfl, by rw [← hw]; rfl, k0⟩
def extP (pre : List Int) (k : Nat) : List (List Int) := (List.range k).flatMap fun (x : Nat) => if (x : Int) ∈ pre then [] else [pre ++ [(x : Int)]]
theorem extP_succ {pre : List Int} {k : Nat} : extP pre (k + 1) = extP pre k ++ if (k : Int) ∈ pre then [] else [pre ++ [(k : Int)]] := by
  unfold extP
  rw [List.range_succ, List.flatMap_append]
  simp
def levP (n : Nat) (L : List (List Int)) (i : Nat) : List (List Int) := (L.take i).flatMap (extI n)
theorem levP_succ {n : Nat} {L : List (List Int)} {i : Nat} (h : i < L.length) : levP n L (i + 1) = levP n L i ++ extI n L[i]! := by
  unfold levP
  rw [List.take_succ_eq_append_getElem h, List.flatMap_append, getElem!_pos L i h]
  simp
theorem extP_len {pre : List Int} {k : Nat} : (extP pre k).length ≤ k := by
  induction k with
  | zero => simp [extP]
  | succ k ih => rw [extP_succ, List.length_append]; split <;> simp <;> omega
theorem levP_len {n : Nat} {L : List (List Int)} : ∀ {i : Nat}, i ≤ L.length → (levP n L i).length ≤ i * n
  | 0, _ => by simp [levP]
  | i + 1, h => by
    have := levP_len (n := n) (L := L) (i := i) (by omega)
    have h2 := extP_len (pre := L[i]!) (k := n)
    have h3 : extI n L[i]! = extP L[i]! n := rfl
    rw [levP_succ (by omega), List.length_append, h3, Nat.succ_mul]
    omega
theorem genI_len {n : Nat} : ∀ {r : Nat}, (genI n r []).length ≤ n ^ r
  | 0 => by simp [genI]
  | r + 1 => by
    have h1 := genI_len (n := n) (r := r)
    have h2 := levP_len (n := n) (L := genI n r []) (i := (genI n r []).length) (Nat.le_refl _)
    unfold levP at h2
    rw [List.take_length, ← genI_snoc] at h2
    rw [Nat.pow_succ]
    exact Nat.le_trans h2 (Nat.mul_le_mul_right _ h1)
set_option maxHeartbeats 16000000 in
set_option maxRecDepth 100000 in
theorem ordersLaw_spec {B n : Nat} {H : Heap} (hB : B ≤ H.n) (hn : n ≤ 4) :
    CallB Try.prog B 60 [VI n] H (fun r H' => (∃ ws, OwnQ H' r ws (genI n n []) H.n) ∧ Keep H H') := by
  have hpow : ∀ k, k ≤ n → n ^ k ≤ 256 := fun k hk => by
    rcases (by omega : n = 0 ∨ n = 1 ∨ n = 2 ∨ n = 3 ∨ n = 4) with rfl | rfl | rfl | rfl | rfl
    · obtain rfl : k = 0 := by omega
      decide
    · exact Nat.le_trans (Nat.pow_le_pow_right (by decide) hk) (by decide)
    · exact Nat.le_trans (Nat.pow_le_pow_right (by decide) hk) (by decide)
    · exact Nat.le_trans (Nat.pow_le_pow_right (by decide) hk) (by decide)
    · exact Nat.le_trans (Nat.pow_le_pow_right (by decide) hk) (by decide)
  refine CV.enter callees false rfl Try.func60 rfl (by kernel_rfl) (Nat.le_of_ble_eq_true rfl) hB ?_
  repeat' first
    | refine CO.cons rfl ?_
    | refine CO.nil ?_
    | refine CV.seq ?_
    | refine CV.region callees ?_
    | refine CV.block ?_
    | (refine ⟨_, _, build_one unG oneN rfl, ?_⟩)
    | fail
  generalize hs0 : Heap.new H _ = H0
  have hg0 := new_get hs0
  have k0 := new_keep hs0
  have n0 := new_n hs0
  obtain ⟨b0, hbn0⟩ : ∃ b, Heap.n H = b := ⟨_, rfl⟩
  rw [hbn0] at hg0 n0 ⊢
  have hq0 : OwnQ H0 (.slice (some ⟨b0, 0, none⟩) 1 0) [nilS] (genI n 0 []) H.n := ⟨.inr ⟨b0, rfl, by omega, by omega, hg0⟩, rfl, fun j hj => by
    have hj0 : j = 0 := by simpa [genI] using hj
    subst hj0
    exact .inl ⟨rfl, rfl⟩⟩
  repeat' first
    | fail
  refine CV.loopc ?_
  refine WCv.rounds callees false (α := Nat × Value × List Value) (fun (k, q, ws) => [(0, VI n), (3, q), (4, VI k)]) (fun (k, q, ws) Hz => k ≤ n ∧ OwnQ Hz q ws (genI n k []) H.n ∧ Keep H Hz) (fun (k, q, ws) => n - k) (0, .slice (some ⟨b0, 0, none⟩) 1 0, [nilS]) (by repeat' first | exact trivial | refine ⟨rfl, ?_⟩ | refine ⟨slot_int (by (try simp only [Int.toNat_natCast]); omega), ?_⟩) ?_ ?_
  · exact ⟨by omega, hq0, k0⟩
  rintro ⟨k, q, ws⟩ Hx ⟨hk, hq, kx⟩ hBx
  have lx := kx.1
  by_cases hk2 : k < n
  rotate_left
  · obtain rfl : k = n := by omega
    repeat' first
      | refine CO.cons rfl ?_
      | refine CO.nil ?_
      | refine CV.seq ?_
      | refine CV.region callees ?_
      | refine CV.cond ?_
      | refine CV.exit ?_
      | refine CV.ret ?_
      | (refine ⟨fun _ => ?_, fun _ => ?_⟩ <;> first | (exfalso; omega) | skip)
      | fail
    exact ⟨by simp only [List.all_cons, List.all_nil, hq.o.notTuple]; rfl, ⟨ws, by rw [← hbn0]; exact hq⟩, kx⟩
  have hgl := genI_len (n := n) (r := k)
  have hpk := hpow k (by omega)
  obtain ⟨L, hL⟩ : ∃ L, genI n k [] = L := ⟨_, rfl⟩
  have hLm : ∀ w ∈ L, w.length = k := fun w hw => by
    rw [← hL] at hw
    obtain ⟨t, rfl, h, _⟩ := genI_mem hw
    simpa using h
  have hnext : genI n (k + 1) [] = levP n L L.length := by rw [genI_snoc, hL, levP, List.take_length]
  rw [hL] at hq hgl
  repeat' first
    | refine CO.cons rfl ?_
    | refine CO.nil ?_
    | refine CV.seq ?_
    | refine CV.region callees ?_
    | refine CV.cond ?_
    | refine CV.block ?_
    | refine CV.skip ?_
    | (refine ⟨fun _ => ?_, fun _ => ?_⟩ <;> first | (exfalso; omega) | skip)
    | fail
  refine CV.loopc ?_
  refine WCv.rounds callees false (α := Nat × Value × List Value) (fun (i, m, ms) => [(0, VI n), (3, q), (4, VI k), (5, m), (6, VI i)]) (fun (i, m, ms) Hz => i ≤ L.length ∧ OwnQ Hz m ms (levP n L i) Hx.n ∧ Keep Hx Hz) (fun (i, m, ms) => L.length - i) (0, nilS, []) (by repeat' first | exact trivial | refine ⟨rfl, ?_⟩ | refine ⟨slot_int (by (try simp only [Int.toNat_natCast]); omega), ?_⟩) ?_ ?_
  · exact ⟨by omega, OwnQ.nil, Keep.refl _⟩
  rintro ⟨i, m, ms⟩ Hy ⟨hi, hm, ky⟩ hBy
  have ly := ky.1
  have hqy := hq.keep ky
  have hll := levP_len (n := n) (L := L) hi
  have hbound : L.length * n ≤ 256 * 4 := Nat.mul_le_mul (by omega) hn
  have hib : i * n ≤ L.length * n := Nat.mul_le_mul_right _ hi
  by_cases hi2 : i < L.length
  rotate_left
  · obtain rfl : i = L.length := by omega
    repeat' first
      | refine CO.cons rfl ?_
      | refine CO.nil ?_
      | refine CV.seq ?_
      | refine CV.region callees ?_
      | refine CV.cond ?_
      | refine CV.exit ?_
      | refine ⟨(⟨by omega, by omega⟩ : inI64 _), ?_⟩
      | (refine ⟨_, hqy.gri.alen, ?_⟩)
      | (refine ⟨fun _ => ?_, fun _ => ?_⟩ <;> first | (exfalso; omega) | skip)
      | fail
    refine ⟨(k + 1, m, ms), (by repeat' first | exact trivial | refine ⟨rfl, ?_⟩ | refine ⟨slot_int (by (try simp only [Int.toNat_natCast]); omega), ?_⟩), (by (try dsimp only); omega), ?_⟩
    refine ⟨by omega, ?_, kx.trans ky⟩
    rw [hnext]
    exact ⟨Own.lower hm.o lx, hm.len, fun j hj => Own.lower (hm.i j hj) lx⟩
  have hwk : L[i]!.length = k := hLm _ (by rw [getElem!_pos L i hi2]; exact List.getElem_mem _)
  repeat' first
    | refine CO.cons rfl ?_
    | refine CO.nil ?_
    | refine CV.seq ?_
    | refine CV.region callees ?_
    | refine CV.cond ?_
    | refine CV.block ?_
    | refine CV.skip ?_
    | (refine ⟨_, hqy.gri.alen, ?_⟩)
    | (refine ⟨fun _ => ?_, fun _ => ?_⟩ <;> first | (exfalso; omega) | skip)
    | fail
  refine CV.loopc ?_
  refine WCv.rounds callees false (α := Nat × Value × List Value) (fun (j, m, ms) => [(0, VI n), (3, q), (4, VI k), (5, m), (6, VI i), (7, VI j)]) (fun (j, m, ms) Hz => j ≤ n ∧ OwnQ Hz m ms (levP n L i ++ extP L[i]! j) Hx.n ∧ Keep Hx Hz) (fun (j, m, ms) => n - j) (0, m, ms) (by repeat' first | exact trivial | refine ⟨rfl, ?_⟩ | refine ⟨slot_int (by (try simp only [Int.toNat_natCast]); omega), ?_⟩) ?_ ?_
  · exact ⟨by omega, by rw [show extP L[i]! 0 = [] from rfl, List.append_nil]; exact hm, ky⟩
  clear hm ky hqy ly
  rintro ⟨j, m, ms⟩ Hz ⟨hj, hm, ky⟩ hBz
  have ly := ky.1
  have hqy := hq.keep ky
  have hel := extP_len (pre := L[i]!) (k := j)
  by_cases hj2 : j < n
  rotate_left
  · obtain rfl : j = n := by omega
    repeat' first
      | refine CO.cons rfl ?_
      | refine CO.nil ?_
      | refine CV.seq ?_
      | refine CV.region callees ?_
      | refine CV.cond ?_
      | refine CV.exit ?_
      | refine ⟨(⟨by omega, by omega⟩ : inI64 _), ?_⟩
      | (refine ⟨fun _ => ?_, fun _ => ?_⟩ <;> first | (exfalso; omega) | skip)
      | fail
    refine ⟨(i + 1, m, ms), (by repeat' first | exact trivial | refine ⟨rfl, ?_⟩ | refine ⟨slot_int (by (try simp only [Int.toNat_natCast]); omega), ?_⟩), (by (try dsimp only); omega), ?_⟩
    exact ⟨by omega, by rw [levP_succ hi2]; exact hm, ky⟩
  have had := hqy.gri.addr hi2
  have hld := hqy.gri.load hi2
  have hli : Ints Hz ws[i]! L[i]! := hqy.gri.ints i hi2
  obtain ⟨w, hw⟩ : ∃ w, L[i]! = w := ⟨_, rfl⟩
  rw [hw] at hli hwk hm hel ⊢
  repeat' first
    | refine CO.cons rfl ?_
    | refine CO.nil ?_
    | refine CV.seq ?_
    | refine CV.region callees ?_
    | refine CV.cond ?_
    | refine CV.block ?_
    | refine CV.skip ?_
    | (refine ⟨_, had, ?_⟩)
    | (refine ⟨_, hld, ?_⟩)
    | (refine ⟨fun _ => ?_, fun _ => ?_⟩ <;> first | (exfalso; omega) | skip)
    | fail
  refine (has_spec (t := (j : Int)) (by omega) hli (by omega)).mono ?_
  by_cases c : (j : Int) ∈ w
  · rw [decide_eq_true c]
    rintro r HA ⟨rfl, rfl⟩
    repeat' first
      | refine CO.cons rfl ?_
      | refine CO.nil ?_
      | refine CV.region callees ?_
      | refine CV.cond ?_
      | refine CV.skip ?_
      | refine ⟨(⟨by omega, by omega⟩ : inI64 _), ?_⟩
      | fail
    refine ⟨(j + 1, m, ms), (by repeat' first | exact trivial | refine ⟨rfl, ?_⟩ | refine ⟨slot_int (by (try simp only [Int.toNat_natCast]); omega), ?_⟩), (by (try dsimp only); omega), ?_⟩
    exact ⟨by omega, by rw [extP_succ, if_pos c, List.append_nil]; exact hm, ky⟩
  · rw [decide_eq_false c]
    rintro r HA ⟨rfl, rfl⟩
    repeat' first
      | refine CO.cons rfl ?_
      | refine CO.nil ?_
      | refine CV.region callees ?_
      | refine CV.cond ?_
      | (refine ⟨_, had, ?_⟩)
      | (refine ⟨_, hld, ?_⟩)
      | fail
    refine (ints_spec (by omega) hli (by omega)).mono ?_
    rintro u HB ⟨hu, kB⟩
    have lB := kB.1
    have hmB := hm.keep kB
    repeat' first
      | refine CO.cons rfl ?_
      | (refine ⟨_, _, build_one un22 one3 rfl, ?_⟩)
      | fail
    refine push_ask (y := (j : Int)) hu kB.1 (by omega) (by omega) ?_
    intro u2 HC hu2 kbC hfC
    have lC := kbC.le
    have hua : ∀ c, blkOf u = some c → HA.n ≤ c := fun c hc => (hu.lt hc).1
    have hmC : OwnQ HC m ms (levP n L i ++ extP w j) Hx.n := hmB.same lC fun c hc => kbC.get c (hmB.lt hc).2 fun h => by have := hua c h; have := (hm.lt hc).2; omega
    have kyC : Keep Hx HC := kbC.keep (ky.trans kB) fun c hc => by have := hua c hc; omega
    repeat' first
      | refine CO.cons rfl ?_
      | (refine ⟨_, _, build_one unG oneN (Row.oneC hu2.row).1, ?_⟩)
      | fail
    refine OwnQ.push hmC (g := w ++ [(j : Int)]) (Own.lower hu2 (by omega)) (by omega) (by omega) (by rw [List.length_append]; omega) ?_
    intro m9 HD hm9 kbD hfD
    have hma : ∀ c, blkOf m = some c → Hx.n ≤ c := fun c hc => (hm.o.lt hc).1
    repeat' first
      | refine CO.cons rfl ?_
      | refine CO.nil ?_
      | refine CV.region callees ?_
      | refine ⟨(⟨by omega, by omega⟩ : inI64 _), ?_⟩
      | fail
    refine ⟨(j + 1, m9, ms ++ [u2]), (by repeat' first | exact trivial | refine ⟨rfl, ?_⟩ | refine ⟨slot_int (by (try simp only [Int.toNat_natCast]); omega), ?_⟩), (by (try dsimp only); omega), ?_⟩
    exact ⟨by omega, by rw [extP_succ, if_neg c, ← List.append_assoc]; exact hm9, kbD.keep kyC hma⟩
end Go.Proofs.Ytijimplcjaeneaa

