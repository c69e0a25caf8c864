
/- slices.Sort of a few ints of one's own. -/
import Derived.Test.YtijimplcjaeneaaGreatDoorc6z
set_option linter.unusedVariables false
set_option linter.unusedSimpArgs false
namespace Go.AI
/-- Sorted below a place, but for one. -/
def SrtB (l : List Int) (i j : Nat) : Prop := (∀ a b, a < b → b ≤ i → a ≠ j → b ≠ j → l[a]! ≤ l[b]!) ∧ ∀ b, j < b → b ≤ i → l[j]! ≤ l[b]!
def Srt (l : List Int) (i : Nat) : Prop := ∀ a b, a < b → b < i → l[a]! ≤ l[b]!
theorem set_set_perm' {l : List Int} {i j : Nat} (hi : i < l.length) (hj : j < l.length) : ((l.set i l[j]!).set j l[i]!).Perm l := by
  have := Array.swap_perm (xs := l.toArray) (i := i) (j := j) (by simpa using hi) (by simpa using hj)
  rw [Array.perm_iff_toList_perm] at this
  rw [getElem!_pos l j hj, getElem!_pos l i hi]
  simpa [Array.swap] using this
end Go.AI
namespace Go.Proofs.YtijimplcjaeneaaGreatDoor
open Go.AI
theorem srt_start {l : List Int} {i : Nat} (h : Srt l i) : SrtB l i i := ⟨fun a b h1 h2 _ h4 => h a b h1 (by omega), fun b h1 h2 => by omega⟩
theorem srt_end {l : List Int} {i j : Nat} (h : SrtB l i j) (hj : j ≤ i) (hs : j = 0 ∨ l[j - 1]! ≤ l[j]!) : Srt l (i + 1) := by
  intro a b hab hb
  by_cases ha : a = j
  · subst ha; exact h.2 b hab (by omega)
  · by_cases hbj : b = j
    · subst hbj
      rcases hs with h0 | h0
      · omega
      · by_cases e : a = b - 1
        · rw [e]; exact h0
        · have := h.1 a (b - 1) (by omega) (by omega) ha (by omega)
          omega
    · exact h.1 a b hab (by omega) ha hbj
theorem srt_step {l : List Int} {i j : Nat} (h : SrtB l i (j + 1)) (hi : i < l.length) (hj : j + 1 ≤ i) (hlt : l[j + 1]! < l[j]!) : SrtB ((l.set (j + 1) l[j]!).set j l[j + 1]!) i j := by
  have g : ∀ a, a < l.length → ((l.set (j + 1) l[j]!).set j l[j + 1]!)[a]! = if j = a then l[j + 1]! else if j + 1 = a then l[j]! else l[a]! := fun a ha => by
    rw [get_set (by rw [List.length_set]; exact ha), get_set ha]
  refine ⟨fun a b hab hb ha hbj => ?_, fun b hb1 hb2 => ?_⟩
  · rw [g a (by omega), g b (by omega), if_neg (Ne.symm ha), if_neg (Ne.symm hbj)]
    by_cases e : j + 1 = a
    · subst e
      rw [if_pos rfl, if_neg (by omega)]
      exact h.1 j b (by omega) hb (by omega) (by omega)
    · rw [if_neg e]
      by_cases f : j + 1 = b
      · subst f
        rw [if_pos rfl]
        exact h.1 a j (by omega) (by omega) (by omega) (by omega)
      · rw [if_neg f]
        exact h.1 a b hab hb (by omega) (by omega)
  · rw [g j (by omega), g b (by omega), if_pos rfl, if_neg (by omega)]
    by_cases f : j + 1 = b
    · subst f
      rw [if_pos rfl]; omega
    · rw [if_neg f]
      exact h.2 b (by omega) hb2
set_option maxRecDepth 100000 in
theorem isNaN_spec [Orc] {B : Nat} {H : Heap} {x : Int} (hB : B ≤ H.n) :
    CallB Tryz.prog B 134 [VI x] H (fun r H' => r = .bool false ∧ H' = H) := by
  refine CV.enter callees false (Orc.hv rfl rfl) Tryz.func134 rfl (by kernel_rfl) (Nat.le_of_ble_eq_true rfl) hB ?_ (Orc.hw rfl rfl)
  repeat' first
    | refine CO.cons rfl ?_
    | refine CO.nil ?_
    | refine CV.seq ?_
    | refine CV.region callees ?_
    | refine CV.cond ?_
    | refine CV.block ?_
    | refine CV.skip ?_
    | refine CV.exit ?_
    | refine CV.ret ?_
    | refine CV.scope ?_
    | refine CV.draw callees (by decide +kernel) ?_
    | refine CH.cons rfl ?_
    | refine CH.nil ?_
    | refine CO.consG rfl ?_
    | refine CH.consG rfl ?_
    | refine CG.cons rfl ?_
    | refine CR.cons ?_
    | refine CR.nil ?_
    | refine CG.nil ?_
    | refine CG.consG rfl ?_
    | refine ⟨(rfl : plain _ = true), ?_⟩
    | refine ⟨(rfl : nilOk _ = some _), ?_⟩
    | refine ⟨_, ints_len (by assumption), ?_⟩
    | refine ⟨_, ints_addr (by assumption) (by omega) (by omega), ?_⟩
    | refine ⟨_, ints_load (by assumption) (by omega) (by omega), ?_⟩
    | refine ⟨(⟨by omega, by omega⟩ : inI64 _), ?_⟩
    | refine ⟨_, fun tm ha => step1_max rfl (ev_tmp ha rfl) (ev_tmp ha rfl), ?_⟩
    | refine ⟨_, fun tm ha => step1_min rfl (ev_tmp ha rfl) (ev_tmp ha rfl), ?_⟩
    | (refine ⟨fun _ => ?_, fun _ => ?_⟩ <;> first | (exfalso; omega) | skip)
    | fail
  exact ⟨rfl, rfl, rfl⟩
set_option maxRecDepth 100000 in
theorem less_spec [Orc] {B : Nat} {H : Heap} {x y : Int} (hB : B ≤ H.n) :
    CallB Tryz.prog B 115 [VI x, VI y] H (fun r H' => r = .bool (decide (x < y)) ∧ H' = H) := by
  refine CV.enter callees false (Orc.hv rfl rfl) Tryz.func115 rfl (by kernel_rfl) (Nat.le_of_ble_eq_true rfl) hB ?_ (Orc.hw rfl rfl)
  repeat' first
    | refine CO.cons rfl ?_
    | refine CO.nil ?_
    | refine CV.seq ?_
    | refine CV.region callees ?_
    | refine CV.cond ?_
    | refine CV.block ?_
    | refine CV.skip ?_
    | refine CV.exit ?_
    | refine CV.ret ?_
    | refine CV.scope ?_
    | refine CV.draw callees (by decide +kernel) ?_
    | refine CH.cons rfl ?_
    | refine CH.nil ?_
    | refine CO.consG rfl ?_
    | refine CH.consG rfl ?_
    | refine CG.cons rfl ?_
    | refine CR.cons ?_
    | refine CR.nil ?_
    | refine CG.nil ?_
    | refine CG.consG rfl ?_
    | refine ⟨(rfl : plain _ = true), ?_⟩
    | refine ⟨(rfl : nilOk _ = some _), ?_⟩
    | refine ⟨_, ints_len (by assumption), ?_⟩
    | refine ⟨_, ints_addr (by assumption) (by omega) (by omega), ?_⟩
    | refine ⟨_, ints_load (by assumption) (by omega) (by omega), ?_⟩
    | refine ⟨(⟨by omega, by omega⟩ : inI64 _), ?_⟩
    | refine ⟨_, fun tm ha => step1_max rfl (ev_tmp ha rfl) (ev_tmp ha rfl), ?_⟩
    | refine ⟨_, fun tm ha => step1_min rfl (ev_tmp ha rfl) (ev_tmp ha rfl), ?_⟩
    | (refine ⟨fun _ => ?_, fun _ => ?_⟩ <;> first | (exfalso; omega) | skip)
    | fail
  refine (isNaN_spec hB).mono ?_
  rintro r H' ⟨rfl, rfl⟩
  by_cases h : x < y
  · rw [decide_eq_true h]
    repeat' first
      | refine CO.cons rfl ?_
      | refine CO.nil ?_
      | refine CV.seq ?_
      | refine CV.region callees ?_
      | refine CV.cond ?_
      | refine CV.block ?_
      | refine CV.skip ?_
      | refine CV.exit ?_
      | refine CV.ret ?_
      | refine CV.scope ?_
      | refine CV.draw callees (by decide +kernel) ?_
      | refine CH.cons rfl ?_
      | refine CH.nil ?_
      | refine CO.consG rfl ?_
      | refine CH.consG rfl ?_
      | refine CG.cons rfl ?_
      | refine CR.cons ?_
      | refine CR.nil ?_
      | refine CG.nil ?_
      | refine CG.consG rfl ?_
      | refine ⟨(rfl : plain _ = true), ?_⟩
      | refine ⟨(rfl : nilOk _ = some _), ?_⟩
      | refine ⟨_, ints_len (by assumption), ?_⟩
      | refine ⟨_, ints_addr (by assumption) (by omega) (by omega), ?_⟩
      | refine ⟨_, ints_load (by assumption) (by omega) (by omega), ?_⟩
      | refine ⟨(⟨by omega, by omega⟩ : inI64 _), ?_⟩
      | refine ⟨_, fun tm ha => step1_max rfl (ev_tmp ha rfl) (ev_tmp ha rfl), ?_⟩
      | refine ⟨_, fun tm ha => step1_min rfl (ev_tmp ha rfl) (ev_tmp ha rfl), ?_⟩
      | (refine ⟨fun _ => ?_, fun _ => ?_⟩ <;> first | (exfalso; omega) | skip)
      | fail
    exact ⟨rfl, rfl, rfl⟩
  · rw [decide_eq_false h]
    repeat' first
      | refine CO.cons rfl ?_
      | refine CO.nil ?_
      | refine CV.seq ?_
      | refine CV.region callees ?_
      | refine CV.cond ?_
      | refine CV.block ?_
      | refine CV.skip ?_
      | refine CV.exit ?_
      | refine CV.ret ?_
      | refine CV.scope ?_
      | refine CV.draw callees (by decide +kernel) ?_
      | refine CH.cons rfl ?_
      | refine CH.nil ?_
      | refine CO.consG rfl ?_
      | refine CH.consG rfl ?_
      | refine CG.cons rfl ?_
      | refine CR.cons ?_
      | refine CR.nil ?_
      | refine CG.nil ?_
      | refine CG.consG rfl ?_
      | refine ⟨(rfl : plain _ = true), ?_⟩
      | refine ⟨(rfl : nilOk _ = some _), ?_⟩
      | refine ⟨_, ints_len (by assumption), ?_⟩
      | refine ⟨_, ints_addr (by assumption) (by omega) (by omega), ?_⟩
      | refine ⟨_, ints_load (by assumption) (by omega) (by omega), ?_⟩
      | refine ⟨(⟨by omega, by omega⟩ : inI64 _), ?_⟩
      | refine ⟨_, fun tm ha => step1_max rfl (ev_tmp ha rfl) (ev_tmp ha rfl), ?_⟩
      | refine ⟨_, fun tm ha => step1_min rfl (ev_tmp ha rfl) (ev_tmp ha rfl), ?_⟩
      | (refine ⟨fun _ => ?_, fun _ => ?_⟩ <;> first | (exfalso; omega) | skip)
      | fail
    exact ⟨rfl, rfl, rfl⟩
theorem sl_adr {b n c : Nat} {i : Int} (h0 : 0 ≤ i) (h1 : i < n) : aindexAddr Tryz.prog 27 (.slice (some ⟨b, 0, none⟩) n c) (.int .i64 i) = some (.pointer (some ⟨b, i.toNat, none⟩)) := by
  simp [aindexAddr, asIdx, un22, sz3, h0, h1]
theorem cell_at {p : List Int} {i : Nat} (h : i < p.length) : (p.map VI)[i]? = some (VI p[i]!) := by
  rw [List.getElem?_map, List.getElem?_eq_getElem h, getElem!_pos p i h]; rfl
theorem arr_put {H : Heap} {b i : Nat} {l : List Int} {e : TypeId} {k : Nat} {y : Int} (hg : H.get b = some (.cells (l.map VI) e (k + 1))) (hi : i < l.length) :
    astore Tryz.prog 3 H (.int .i64 y) (.pointer (some ⟨b, i, none⟩)) = some (H.set b (.cells ((l.set i y).map VI) e (k + 1)), b) := by
  rw [store_row (i := i) sz3 hg (by rw [List.length_map]; exact hi) rfl, ← List.map_set]
set_option maxHeartbeats 4000000 in
set_option maxRecDepth 100000 in
theorem insert_spec [Orc] {B b c : Nat} {H : Heap} {l : List Int} (hB : B ≤ b) (hn : B ≤ H.n) (hbn : b < H.n) (hg : H.get b = some (.cells (l.map VI) 3 2)) (hl : l.length ≤ 12) (hl1 : 1 ≤ l.length) :
    CallB Tryz.prog B 109 [.slice (some ⟨b, 0, none⟩) l.length c, VI 0, VI l.length] H (fun r H' => ∃ R : List Int, R.Perm l ∧ Srt R l.length ∧ H'.get b = some (.cells (R.map VI) 3 2) ∧ H'.n = H.n ∧ ∀ d, d ≠ b → H'.get d = H.get d) := by
  refine CV.enter callees false (Orc.hv rfl rfl) Tryz.func109 rfl (by kernel_rfl) (Nat.le_of_ble_eq_true rfl) hn ?_ (Orc.hw rfl rfl)
  repeat' first
    | refine CO.cons rfl ?_
    | refine CO.nil ?_
    | refine CV.seq ?_
    | refine CV.region callees ?_
    | refine CV.cond ?_
    | refine CV.block ?_
    | refine CV.skip ?_
    | refine CV.exit ?_
    | refine CV.ret ?_
    | refine CV.scope ?_
    | refine CV.draw callees (by decide +kernel) ?_
    | refine CH.cons rfl ?_
    | refine CH.nil ?_
    | refine CO.consG rfl ?_
    | refine CH.consG rfl ?_
    | refine CG.cons rfl ?_
    | refine CR.cons ?_
    | refine CR.nil ?_
    | refine CG.nil ?_
    | refine CG.consG rfl ?_
    | refine ⟨(rfl : plain _ = true), ?_⟩
    | refine ⟨(rfl : nilOk _ = some _), ?_⟩
    | refine ⟨_, ints_len (by assumption), ?_⟩
    | refine ⟨_, ints_addr (by assumption) (by omega) (by omega), ?_⟩
    | refine ⟨_, ints_load (by assumption) (by omega) (by omega), ?_⟩
    | refine ⟨(⟨by omega, by omega⟩ : inI64 _), ?_⟩
    | refine ⟨_, fun tm ha => step1_max rfl (ev_tmp ha rfl) (ev_tmp ha rfl), ?_⟩
    | refine ⟨_, fun tm ha => step1_min rfl (ev_tmp ha rfl) (ev_tmp ha rfl), ?_⟩
    | (refine ⟨fun _ => ?_, fun _ => ?_⟩ <;> first | (exfalso; omega) | skip)
    | fail
  refine CV.loopc ?_
  refine WCv.rounds callees false (α := Nat × List Int) (fun (i, p) => [(0, .slice (some ⟨b, 0, none⟩) l.length c), (1, VI 0), (2, VI l.length), (6, VI (i + 1))]) (fun (i, p) Hz => i < l.length ∧ p.Perm l ∧ Srt p (i + 1) ∧ Hz.get b = some (.cells (p.map VI) 3 2) ∧ Hz.n = H.n ∧ (∀ d, d ≠ b → Hz.get d = H.get d)) (fun (i, p) => l.length - i) (0, l) (by repeat' first | exact trivial | refine ⟨rfl, ?_⟩ | refine ⟨slot_int (by (try simp only [Int.toNat_natCast]); omega), ?_⟩) ?_ ?_
  · exact ⟨by omega, List.Perm.refl _, fun a b h1 h2 => by omega, hg, rfl, fun _ _ => rfl⟩
  rintro ⟨i, m⟩ Hx ⟨hi, hpm, hsm, gx, nx, ox⟩ hBx
  have hml := hpm.length_eq
  by_cases hi2 : i + 1 < l.length
  · repeat' first
      | refine CO.cons rfl ?_
      | refine CO.nil ?_
      | refine CV.seq ?_
      | refine CV.region callees ?_
      | refine CV.cond ?_
      | refine CV.block ?_
      | refine CV.skip ?_
      | refine CV.exit ?_
      | refine CV.ret ?_
      | refine CV.scope ?_
      | refine CV.draw callees (by decide +kernel) ?_
      | refine CH.cons rfl ?_
      | refine CH.nil ?_
      | refine CO.consG rfl ?_
      | refine CH.consG rfl ?_
      | refine CG.cons rfl ?_
      | refine CR.cons ?_
      | refine CR.nil ?_
      | refine CG.nil ?_
      | refine CG.consG rfl ?_
      | refine ⟨(rfl : plain _ = true), ?_⟩
      | refine ⟨(rfl : nilOk _ = some _), ?_⟩
      | refine ⟨_, ints_len (by assumption), ?_⟩
      | refine ⟨_, ints_addr (by assumption) (by omega) (by omega), ?_⟩
      | refine ⟨_, ints_load (by assumption) (by omega) (by omega), ?_⟩
      | refine ⟨(⟨by omega, by omega⟩ : inI64 _), ?_⟩
      | refine ⟨_, fun tm ha => step1_max rfl (ev_tmp ha rfl) (ev_tmp ha rfl), ?_⟩
      | refine ⟨_, fun tm ha => step1_min rfl (ev_tmp ha rfl) (ev_tmp ha rfl), ?_⟩
      | (refine ⟨fun _ => ?_, fun _ => ?_⟩ <;> first | (exfalso; omega) | skip)
      | fail
    refine CV.loopc ?_
    refine WCv.rounds callees false (α := List Int × Nat) (fun (p, j) => [(0, .slice (some ⟨b, 0, none⟩) l.length c), (1, VI 0), (2, VI l.length), (6, VI (i + 1)), (7, VI j)]) (fun (p, j) Hz => j ≤ i + 1 ∧ p.Perm l ∧ SrtB p (i + 1) j ∧ Hz.get b = some (.cells (p.map VI) 3 2) ∧ Hz.n = H.n ∧ (∀ d, d ≠ b → Hz.get d = H.get d)) (fun (p, j) => j) (m, i + 1) (by repeat' first | exact trivial | refine ⟨rfl, ?_⟩ | refine ⟨slot_int (by (try simp only [Int.toNat_natCast]); omega), ?_⟩) ?_ ?_
    · exact ⟨by omega, hpm, srt_start hsm, gx, nx, ox⟩
    clear gx nx ox hsm hpm hml
    rintro ⟨p, j⟩ Hy ⟨hj, hp, hps, gy, ny, oy⟩ hBy
    have hpl := hp.length_eq
    match j, hj, hps with
    | 0, hj, hps =>
      have := srt_end hps (by omega) (.inl rfl)
      repeat' first
        | refine CO.cons rfl ?_
        | refine CO.nil ?_
        | refine CV.seq ?_
        | refine CV.region callees ?_
        | refine CV.cond ?_
        | refine CV.block ?_
        | refine CV.skip ?_
        | refine CV.exit ?_
        | refine CV.ret ?_
        | refine CV.scope ?_
        | refine CV.draw callees (by decide +kernel) ?_
        | refine CH.cons rfl ?_
        | refine CH.nil ?_
        | refine CO.consG rfl ?_
        | refine CH.consG rfl ?_
        | refine CG.cons rfl ?_
        | refine CR.cons ?_
        | refine CR.nil ?_
        | refine CG.nil ?_
        | refine CG.consG rfl ?_
        | refine ⟨(rfl : plain _ = true), ?_⟩
        | refine ⟨(rfl : nilOk _ = some _), ?_⟩
        | refine ⟨_, ints_len (by assumption), ?_⟩
        | refine ⟨_, ints_addr (by assumption) (by omega) (by omega), ?_⟩
        | refine ⟨_, ints_load (by assumption) (by omega) (by omega), ?_⟩
        | refine ⟨(⟨by omega, by omega⟩ : inI64 _), ?_⟩
        | refine ⟨_, fun tm ha => step1_max rfl (ev_tmp ha rfl) (ev_tmp ha rfl), ?_⟩
        | refine ⟨_, fun tm ha => step1_min rfl (ev_tmp ha rfl) (ev_tmp ha rfl), ?_⟩
        | (refine ⟨fun _ => ?_, fun _ => ?_⟩ <;> first | (exfalso; omega) | skip)
        | fail
      refine ⟨(i + 1, p), (by repeat' first | exact trivial | refine ⟨rfl, ?_⟩ | refine ⟨slot_int (by (try simp only [Int.toNat_natCast]); omega), ?_⟩), (by (try dsimp only); omega), ?_⟩
      exact ⟨by omega, hp, this, gy, ny, oy⟩
    | j + 1, hj, hps =>
      have x1 : p[((j + 1 : Nat) : Int).toNat]! = p[j + 1]! := rfl
      have x3 : (((j + 1 : Nat) : Int) - 1).toNat = j := by omega
      have x2 : p[(((j + 1 : Nat) : Int) - 1).toNat]! = p[j]! := by rw [x3]
      have hc1 : (p.map VI)[((j + 1 : Nat) : Int).toNat]? = some (VI p[j + 1]!) := cell_at (by omega)
      have hc2 : (p.map VI)[(((j + 1 : Nat) : Int) - 1).toNat]? = some (VI p[j]!) := by rw [x3]; exact cell_at (by omega)
      repeat' first
        | refine CO.cons rfl ?_
        | refine CO.nil ?_
        | refine CV.seq ?_
        | refine CV.region callees ?_
        | refine CV.cond ?_
        | refine CV.block ?_
        | refine CV.skip ?_
        | refine CV.exit ?_
        | refine CV.ret ?_
        | refine CV.scope ?_
        | refine CV.draw callees (by decide +kernel) ?_
        | refine CH.cons rfl ?_
        | refine CH.nil ?_
        | refine CO.consG rfl ?_
        | refine CH.consG rfl ?_
        | refine CG.cons rfl ?_
        | refine CR.cons ?_
        | refine CR.nil ?_
        | refine CG.nil ?_
        | refine CG.consG rfl ?_
        | refine ⟨(rfl : plain _ = true), ?_⟩
        | refine ⟨(rfl : nilOk _ = some _), ?_⟩
        | refine ⟨_, ints_len (by assumption), ?_⟩
        | refine ⟨_, ints_addr (by assumption) (by omega) (by omega), ?_⟩
        | refine ⟨_, ints_load (by assumption) (by omega) (by omega), ?_⟩
        | refine ⟨(⟨by omega, by omega⟩ : inI64 _), ?_⟩
        | refine ⟨_, fun tm ha => step1_max rfl (ev_tmp ha rfl) (ev_tmp ha rfl), ?_⟩
        | refine ⟨_, fun tm ha => step1_min rfl (ev_tmp ha rfl) (ev_tmp ha rfl), ?_⟩
        | (refine ⟨_, sl_adr (by omega) (by omega), ?_⟩)
        | (refine ⟨_, cell_load ag3 gy hc1, ?_⟩)
        | (refine ⟨_, cell_load ag3 gy hc2, ?_⟩)
        | (refine ⟨fun _ => ?_, fun _ => ?_⟩ <;> first | (exfalso; omega) | skip)
        | fail
      refine (less_spec (by omega)).mono ?_
      by_cases hlt : p[j + 1]! < p[j]!
      · rw [decide_eq_true hlt]
        rintro r Hw ⟨rfl, rfl⟩
        have hstep := srt_step hps (by omega) (by omega) hlt
        have hperm : ((p.set (j + 1) p[j]!).set j p[j + 1]!).Perm l := (set_set_perm' (i := j + 1) (j := j) (by omega) (by omega)).trans hp
        repeat' first
          | refine CO.cons rfl ?_
          | refine CO.nil ?_
          | refine CV.seq ?_
          | refine CV.region callees ?_
          | refine CV.cond ?_
          | refine CV.block ?_
          | refine CV.skip ?_
          | refine CV.exit ?_
          | refine CV.ret ?_
          | refine CV.scope ?_
          | refine CV.draw callees (by decide +kernel) ?_
          | refine CH.cons rfl ?_
          | refine CH.nil ?_
          | refine CO.consG rfl ?_
          | refine CH.consG rfl ?_
          | refine CG.cons rfl ?_
          | refine CR.cons ?_
          | refine CR.nil ?_
          | refine CG.nil ?_
          | refine CG.consG rfl ?_
          | refine ⟨(rfl : plain _ = true), ?_⟩
          | refine ⟨(rfl : nilOk _ = some _), ?_⟩
          | refine ⟨_, ints_len (by assumption), ?_⟩
          | refine ⟨_, ints_addr (by assumption) (by omega) (by omega), ?_⟩
          | refine ⟨_, ints_load (by assumption) (by omega) (by omega), ?_⟩
          | refine ⟨(⟨by omega, by omega⟩ : inI64 _), ?_⟩
          | refine ⟨_, fun tm ha => step1_max rfl (ev_tmp ha rfl) (ev_tmp ha rfl), ?_⟩
          | refine ⟨_, fun tm ha => step1_min rfl (ev_tmp ha rfl) (ev_tmp ha rfl), ?_⟩
          | refine CV.wideR callees (by decide +kernel) [(0, []), (1, []), (2, []), (3, []), (4, []), (5, []), (6, []), (7, []), (8, []), (9, []), (10, []), (11, []), (12, []), (13, []), (14, []), (15, [4]), (16, []), (17, [])] (by kernel_rfl) ?_
          | (refine ⟨_, sl_adr (by omega) (by omega), ?_⟩)
          | (refine ⟨_, cell_load ag3 gy hc1, ?_⟩)
          | (refine ⟨_, cell_load ag3 gy hc2, ?_⟩)
          | (refine ⟨fun _ => ?_, fun _ => ?_⟩ <;> first | (exfalso; omega) | skip)
          | fail
        refine ⟨_, _, arr_put gy (by omega), by omega, ?_⟩
        generalize hs1 : Heap.set Hw b _ = H1
        have g1 := set_get hs1
        have n1 := set_n hs1
        have o1 := set_old hs1
        repeat' first
          | refine CO.cons rfl ?_
          | refine CO.nil ?_
          | refine CV.seq ?_
          | refine CV.region callees ?_
          | refine CV.cond ?_
          | refine CV.block ?_
          | refine CV.skip ?_
          | refine CV.exit ?_
          | refine CV.ret ?_
          | refine CV.scope ?_
          | refine CV.draw callees (by decide +kernel) ?_
          | refine CH.cons rfl ?_
          | refine CH.nil ?_
          | refine CO.consG rfl ?_
          | refine CH.consG rfl ?_
          | refine CG.cons rfl ?_
          | refine CR.cons ?_
          | refine CR.nil ?_
          | refine CG.nil ?_
          | refine CG.consG rfl ?_
          | refine ⟨(rfl : plain _ = true), ?_⟩
          | refine ⟨(rfl : nilOk _ = some _), ?_⟩
          | refine ⟨_, ints_len (by assumption), ?_⟩
          | refine ⟨_, ints_addr (by assumption) (by omega) (by omega), ?_⟩
          | refine ⟨_, ints_load (by assumption) (by omega) (by omega), ?_⟩
          | refine ⟨(⟨by omega, by omega⟩ : inI64 _), ?_⟩
          | refine ⟨_, fun tm ha => step1_max rfl (ev_tmp ha rfl) (ev_tmp ha rfl), ?_⟩
          | refine ⟨_, fun tm ha => step1_min rfl (ev_tmp ha rfl) (ev_tmp ha rfl), ?_⟩
          | (refine ⟨(rfl : _ = Value.int _ _), ?_⟩)
          | (refine ⟨same_int, ?_⟩)
          | (refine ⟨_, sl_adr (by omega) (by omega), ?_⟩)
          | (refine ⟨fun _ => ?_, fun _ => ?_⟩ <;> first | (exfalso; omega) | skip)
          | fail
        refine ⟨_, _, arr_put g1 (by rw [List.length_set]; omega), by omega, ?_⟩
        generalize hs2 : Heap.set H1 b _ = H2
        have g2 := set_get hs2
        have n2 := set_n hs2
        have o2 := set_old hs2
        rw [x3] at g2
        have g2 : H2.get b = some (.cells (((p.set (j + 1) p[j]!).set j p[j + 1]!).map VI) 3 2) := g2
        repeat' first
          | refine CO.cons rfl ?_
          | refine CO.nil ?_
          | refine CV.seq ?_
          | refine CV.region callees ?_
          | refine CV.cond ?_
          | refine CV.block ?_
          | refine CV.skip ?_
          | refine CV.exit ?_
          | refine CV.ret ?_
          | refine CV.scope ?_
          | refine CV.draw callees (by decide +kernel) ?_
          | refine CH.cons rfl ?_
          | refine CH.nil ?_
          | refine CO.consG rfl ?_
          | refine CH.consG rfl ?_
          | refine CG.cons rfl ?_
          | refine CR.cons ?_
          | refine CR.nil ?_
          | refine CG.nil ?_
          | refine CG.consG rfl ?_
          | refine ⟨(rfl : plain _ = true), ?_⟩
          | refine ⟨(rfl : nilOk _ = some _), ?_⟩
          | refine ⟨_, ints_len (by assumption), ?_⟩
          | refine ⟨_, ints_addr (by assumption) (by omega) (by omega), ?_⟩
          | refine ⟨_, ints_load (by assumption) (by omega) (by omega), ?_⟩
          | refine ⟨(⟨by omega, by omega⟩ : inI64 _), ?_⟩
          | refine ⟨_, fun tm ha => step1_max rfl (ev_tmp ha rfl) (ev_tmp ha rfl), ?_⟩
          | refine ⟨_, fun tm ha => step1_min rfl (ev_tmp ha rfl) (ev_tmp ha rfl), ?_⟩
          | (refine ⟨fun _ => ?_, fun _ => ?_⟩ <;> first | (exfalso; omega) | skip)
          | fail
        refine ⟨((p.set (j + 1) p[j]!).set j p[j + 1]!, j), (by repeat' first | exact trivial | refine ⟨rfl, ?_⟩ | refine ⟨slot_int (by (try simp only [Int.toNat_natCast]); omega), ?_⟩), (by (try dsimp only); omega), ?_⟩
        exact ⟨by omega, hperm, hstep, g2, by omega, fun d hd => by rw [o2 d hd, o1 d hd, oy d hd]⟩
      · rw [decide_eq_false hlt]
        rintro r Hw ⟨rfl, rfl⟩
        have := srt_end hps (by omega) (.inr (by rw [Nat.add_sub_cancel]; omega))
        repeat' first
          | refine CO.cons rfl ?_
          | refine CO.nil ?_
          | refine CV.seq ?_
          | refine CV.region callees ?_
          | refine CV.cond ?_
          | refine CV.block ?_
          | refine CV.skip ?_
          | refine CV.exit ?_
          | refine CV.ret ?_
          | refine CV.scope ?_
          | refine CV.draw callees (by decide +kernel) ?_
          | refine CH.cons rfl ?_
          | refine CH.nil ?_
          | refine CO.consG rfl ?_
          | refine CH.consG rfl ?_
          | refine CG.cons rfl ?_
          | refine CR.cons ?_
          | refine CR.nil ?_
          | refine CG.nil ?_
          | refine CG.consG rfl ?_
          | refine ⟨(rfl : plain _ = true), ?_⟩
          | refine ⟨(rfl : nilOk _ = some _), ?_⟩
          | refine ⟨_, ints_len (by assumption), ?_⟩
          | refine ⟨_, ints_addr (by assumption) (by omega) (by omega), ?_⟩
          | refine ⟨_, ints_load (by assumption) (by omega) (by omega), ?_⟩
          | refine ⟨(⟨by omega, by omega⟩ : inI64 _), ?_⟩
          | refine ⟨_, fun tm ha => step1_max rfl (ev_tmp ha rfl) (ev_tmp ha rfl), ?_⟩
          | refine ⟨_, fun tm ha => step1_min rfl (ev_tmp ha rfl) (ev_tmp ha rfl), ?_⟩
          | (refine ⟨fun _ => ?_, fun _ => ?_⟩ <;> first | (exfalso; omega) | skip)
          | fail
        refine ⟨(i + 1, p), (by repeat' first | exact trivial | refine ⟨rfl, ?_⟩ | refine ⟨slot_int (by (try simp only [Int.toNat_natCast]); omega), ?_⟩), (by (try dsimp only); omega), ?_⟩
        exact ⟨by omega, hp, this, gy, ny, oy⟩
  · have hil : i + 1 = l.length := by omega
    rw [hil] at hsm
    repeat' first
      | refine CO.cons rfl ?_
      | refine CO.nil ?_
      | refine CV.seq ?_
      | refine CV.region callees ?_
      | refine CV.cond ?_
      | refine CV.block ?_
      | refine CV.skip ?_
      | refine CV.exit ?_
      | refine CV.ret ?_
      | refine CV.scope ?_
      | refine CV.draw callees (by decide +kernel) ?_
      | refine CH.cons rfl ?_
      | refine CH.nil ?_
      | refine CO.consG rfl ?_
      | refine CH.consG rfl ?_
      | refine CG.cons rfl ?_
      | refine CR.cons ?_
      | refine CR.nil ?_
      | refine CG.nil ?_
      | refine CG.consG rfl ?_
      | refine ⟨(rfl : plain _ = true), ?_⟩
      | refine ⟨(rfl : nilOk _ = some _), ?_⟩
      | refine ⟨_, ints_len (by assumption), ?_⟩
      | refine ⟨_, ints_addr (by assumption) (by omega) (by omega), ?_⟩
      | refine ⟨_, ints_load (by assumption) (by omega) (by omega), ?_⟩
      | refine ⟨(⟨by omega, by omega⟩ : inI64 _), ?_⟩
      | refine ⟨_, fun tm ha => step1_max rfl (ev_tmp ha rfl) (ev_tmp ha rfl), ?_⟩
      | refine ⟨_, fun tm ha => step1_min rfl (ev_tmp ha rfl) (ev_tmp ha rfl), ?_⟩
      | (refine ⟨fun _ => ?_, fun _ => ?_⟩ <;> first | (exfalso; omega) | skip)
      | fail
    exact ⟨rfl, m, hpm, hsm, gx, nx, ox⟩
end Go.Proofs.YtijimplcjaeneaaGreatDoor

