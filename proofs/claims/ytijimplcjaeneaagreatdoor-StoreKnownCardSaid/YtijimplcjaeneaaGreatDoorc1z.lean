
/- All orders of the links of a chain that stories have, handed out one by one. -/
import Derived.Test.YtijimplcjaeneaaGreatDoorc0z
set_option linter.unusedVariables false
set_option linter.unusedSimpArgs false
namespace Go.Proofs.YtijimplcjaeneaaGreatDoor
open Go.AI
theorem sl_len {X : Heap} {b n c : Nat} : alen Tryz.prog X 27 (.slice (some ⟨b, 0, none⟩) n c) = some (VI n) := by simp [alen, un22]
theorem sl_cut {b n c : Nat} {k : Int} (h0 : 0 ≤ k) (h1 : k ≤ n) : aslice Tryz.prog 27 (.slice (some ⟨b, 0, none⟩) n c) none (some (some (VI k))) = some (.slice (some ⟨b, 0, none⟩) k.toNat c) := by
  simp [aslice, un22, sz3, bound, h0, h1]
/-- The soonest day of a link behind a day. -/
def soon (d : Int) (l : Lk) : Int := max (d + 1) l.lo
def takesB (ls : List Lk) (pre : List Int) (o d : Int) (i : Nat) : Bool := decide (ls[i]!.f = o) && (decide (soon d ls[i]! ≤ ls[i]!.hi) && !decide ((i : Int) ∈ pre))
/-- All orders that begin so, with so many more links, for an owner who has the thing from a day on. -/
def growL (ls : List Lk) : Nat → List Int → Int → Int → List (List Int)
  | 0, pre, _, _ => [pre]
  | r + 1, pre, o, d => (List.range ls.length).flatMap fun (i : Nat) => if takesB ls pre o d i then growL ls r (pre ++ [(i : Int)]) ls[i]!.t (soon d ls[i]!) else []
def growP (ls : List Lk) (r : Nat) (pre : List Int) (o d : Int) (k : Nat) : List (List Int) := (List.range k).flatMap fun (i : Nat) => if takesB ls pre o d i then growL ls r (pre ++ [(i : Int)]) ls[i]!.t (soon d ls[i]!) else []
theorem growP_succ {ls : List Lk} {r : Nat} {pre : List Int} {o d : Int} {k : Nat} : growP ls r pre o d (k + 1) = growP ls r pre o d k ++ (if takesB ls pre o d k then growL ls r (pre ++ [(k : Int)]) ls[k]!.t (soon d ls[k]!) else []) := by
  unfold growP
  rw [List.range_succ, List.flatMap_append]
  simp
theorem growP_pre {ls : List Lk} {r : Nat} {pre : List Int} {o d : Int} : ∀ {e k : Nat}, growP ls r pre o d k <+: growP ls r pre o d (k + e)
  | 0, k => List.prefix_refl _
  | e + 1, k => by
    refine List.IsPrefix.trans (growP_pre (e := e)) ?_
    rw [show k + (e + 1) = k + e + 1 by omega, growP_succ]
    exact List.prefix_append _ _
abbrev yT : TypeId := 141
abbrev gT : TypeId := 142
theorem agY : isAggB Tryz.prog yT = some false := by kernel_rfl
theorem agG : isAggB Tryz.prog gT = some false := by kernel_rfl
theorem szG : sizeB Tryz.prog gT = some 1 := by kernel_rfl
theorem sz26 : sizeB Tryz.prog 27 = some 1 := by kernel_rfl
theorem zcG : zeroCellsW Tryz.prog gT = some [.nilFunc] := by kernel_rfl
theorem alG {H : Heap} : sAlloc Tryz.prog H gT = some (.pointer (some ⟨H.n, 0, none⟩), H.new (.cells [.nilFunc] gT 1), H.n) := alloc_ofW zcG
theorem zc26 : zeroCellsW Tryz.prog 27 = some [nilS] := by kernel_rfl
theorem al26 {H : Heap} : sAlloc Tryz.prog H 27 = some (.pointer (some ⟨H.n, 0, none⟩), H.new (.cells [nilS] 27 1), H.n) := alloc_ofW zc26
/-- The function that adds links. -/
abbrev growV (c b : Nat) : Value := .func (.func 81) #[] #[.pointer (some ⟨b + 2, 0, none⟩), .pointer (some ⟨c, 0, none⟩), .pointer (some ⟨b, 0, none⟩), .pointer (some ⟨b + 3, 0, none⟩)]
abbrev pile (q n : Nat) : Value := .slice (some ⟨q, 0, none⟩) n 0
/-- What is its own. -/
structure MineC (b c l q : Nat) (pre : List Int) (X : Heap) : Prop where
  y : X.get b = some (.cells [.func (.yield l) #[] #[]] yT 1)
  o : X.get (b + 2) = some (.cells [pile q pre.length] 27 1)
  f : X.get (b + 3) = some (.cells [growV c b] gT 1)
  p : ∃ cs, X.get q = some (.cells cs 3 2) ∧ cs.take pre.length = pre.map VI
  lt : q < X.n
  ge : q = b + 1 ∨ b + 4 ≤ q
theorem MineC.keep {b c l q : Nat} {pre : List Int} {X X' : Heap} (h : MineC b c l q pre X) (k : Keep X X') (hb : b + 4 ≤ X.n) : MineC b c l q pre X' := by
  obtain ⟨cs, h1, h2⟩ := h.p
  exact ⟨(k.2 _ (by omega)).trans h.y, (k.2 _ (by omega)).trans h.o, (k.2 _ (by omega)).trans h.f, ⟨cs, (k.2 _ h.lt).trans h1, h2⟩, Nat.lt_of_lt_of_le h.lt k.1, h.ge⟩
theorem take_row {cs : List Value} {pre : List Int} (h : cs.take pre.length = pre.map VI) : pre.length ≤ cs.length ∧ ∀ (j : Nat) w, (pre.map VI)[j]? = some w → cs[j]? = some w := by
  have hl := congrArg List.length h
  rw [List.length_take, List.length_map] at hl
  refine ⟨by omega, fun j w hj => ?_⟩
  rw [← h, List.getElem?_take] at hj
  split at hj
  · exact hj
  · cases hj
theorem pile_row {q : Nat} {pre : List Int} {X : Heap} {cs : List Value} (h1 : X.get q = some (.cells cs 3 2)) (h2 : cs.take pre.length = pre.map VI) (hq : q < X.n) : Ints X (pile q pre.length) pre := by
  obtain ⟨h3, h4⟩ := take_row h2
  exact .inr (.inr ⟨q, 0, 0, cs, 3, 2, by simp, hq, h1, by decide, by simpa using h3, fun j w hj => by simpa using h4 j w hj⟩)
theorem MineC.row {b c l q : Nat} {pre : List Int} {X : Heap} (h : MineC b c l q pre X) : Ints X (pile q pre.length) pre := by
  obtain ⟨cs, h1, h2⟩ := h.p
  exact pile_row h1 h2 h.lt
theorem pile_push {K : Value → Heap → Prop} {B q : Nat} {H : Heap} {cs : List Value} {pre : List Int} {y : Int} (hg : H.get q = some (.cells cs 3 2)) (ht : cs.take pre.length = pre.map VI) (hq : q < H.n) (hB : B ≤ q) (hn : pre.length < 100)
    (hk : ∀ H', H'.get (H.n + 1) = some (.cells ((pre ++ [y]).map VI) 3 2) → (∀ p, p < H.n → p ≠ q → H'.get p = H.get p) → H'.n = H.n + 2 → K (pile (H.n + 1) (pre ++ [y]).length) H') :
    ∃ v H' lo, aappend Tryz.prog (H.new (.cells [VI y] 3 2)) #[27, 27] (pile q pre.length) (.slice (some ⟨H.n, 0, none⟩) 1 0) = some (v, H', lo) ∧ B ≤ lo ∧ K v H' := by
  obtain ⟨info, hi, hz, hs, hc, hsc, hby⟩ := oneBB_spec one3
  have hy : Row (H.new (.cells [VI y] 3 2)) (.slice (some ⟨H.n, 0, none⟩) 1 0) [VI y] := new_row rfl
  have hy' := hy.source
  have hg1 : (H.new (.cells [VI y] 3 2)).get q = some (.cells cs 3 2) := by rw [Heap.get_new_ne _ _ (by omega)]; exact hg
  have hl := (take_row ht).1
  have hmul : (pre.length + [VI y].length) * info.bytes ≤ 140737488355328 := Nat.le_trans (Nat.mul_le_mul (show pre.length + [VI y].length ≤ 1000 by simp; omega) (show info.bytes ≤ 1000 by omega)) (by decide)
  have hlen : (pre ++ [y]).length = pre.length + 1 := by simp
  have hmap : (pre ++ [y]).map VI = pre.map VI ++ [VI y] := by simp
  have hfin : K (pile (H.n + 1) (pre.length + 1)) (((H.new (.cells [VI y] 3 2)).set q .gone).new (.cells (pre.map VI ++ [VI y]) 3 2)) := by
    rw [← hlen, ← hmap]
    refine hk _ ?_ (fun p hp hpq => ?_) rfl
    · exact Heap.get_new_eq _ _
    · rw [Heap.get_new_ne _ _ (by show p ≠ H.n + 1; omega), Heap.get_set_ne _ _ (Ne.symm hpq), Heap.get_new_ne _ _ (by omega)]
  refine ⟨pile (H.n + 1) (pre.length + 1), _, q, ?_, hB, hfin⟩
  simp only [aappend, un22, hi, hz, hc, hs, hy', hg1]
  rw [if_neg (by simp), if_neg (by simp), if_neg (by simp), if_neg (by simp)]
  by_cases he : cs.length = pre.length
  · rw [if_pos ⟨trivial, by rw [he, Nat.mul_one], by show pre.length + 1 ≤ 9223372036854775807; omega, hmul⟩]
    have : cs = pre.map VI := by rw [← ht, List.take_of_length_le (by omega)]
    rw [this]; rfl
  · rw [if_neg (by intro h; exact he (by rw [h.2.1, Nat.mul_one])), if_pos ⟨trivial, by rw [Nat.mul_one]; omega, by show pre.length + 1 ≤ 9223372036854775807; omega, hmul⟩]
    rw [Nat.mul_one, ht]; rfl
/-- What a chain is made of when its orders are asked for. -/
structure LsOk (ls : List Lk) : Prop where
  n : ls.length ≤ 7
  lo : ∀ i, i < ls.length → 0 ≤ ls[i]!.lo ∧ ls[i]!.lo ≤ 100000
  hi : ∀ i, i < ls.length → 0 ≤ ls[i]!.hi ∧ ls[i]!.hi ≤ 100000
set_option maxHeartbeats 16000000 in
set_option maxRecDepth 100000 in
theorem grow_spec [Orc] {B b c l : Nat} {mk lo hi : Int} {sv : Value} {ls : List Lk} {L : List (List Int)} (J : List (List Int) → Nat → Heap → Prop) (K : Heap → Prop) (hBb : B ≤ b) (hcb : c < b) (hls : LsOk ls)
    (hJc : ∀ S q X, J S q X → X.get c = some (.cells (Chl mk lo hi sv) 26 1) ∧ RowS 4 X sv (ls.map Lkl))
    (hJs : ∀ S q q' X X', J S q X → X.n ≤ X'.n → (∀ p, p < X.n → p ≠ q → p ≠ b + 2 → X'.get p = X.get p) → (q' = q ∨ X.n ≤ q') → J S q' X')
    (hY : ∀ S o q X, (S ++ [o]) <+: L → J S q X → MineC b c l q o X → B ≤ X.n → b + 4 ≤ X.n → RoundB Tryz.prog B l [pile q o.length] X (fun r X' => ((r = .bool true ∧ J (S ++ [o]) q X' ∧ (∀ p, (b ≤ p ∧ p < b + 4 ∨ p = q) → X'.get p = X.get p)) ∨ (r = .bool false ∧ K X')) ∧ X.n ≤ X'.n)) :
    ∀ (r : Nat) (pre : List Int) (o d : Int) (S : List (List Int)) (q : Nat) (X : Heap), pre.length + r = ls.length → 0 ≤ d → d ≤ 100000 → (S ++ growL ls r pre o d) <+: L → J S q X → MineC b c l q pre X → B ≤ X.n → b + 4 ≤ X.n →
    CallB Tryz.prog B 81 [VI o, VI d, .pointer (some ⟨b + 2, 0, none⟩), .pointer (some ⟨c, 0, none⟩), .pointer (some ⟨b, 0, none⟩), .pointer (some ⟨b + 3, 0, none⟩)] X
      (fun v X' => ((v = .bool true ∧ ∃ q', J (S ++ growL ls r pre o d) q' X' ∧ MineC b c l q' pre X') ∨ (v = .bool false ∧ K X')) ∧ X.n ≤ X'.n) := by
  have hn7 := hls.n
  intro r
  induction r with
  | zero =>
    intro pre o d S q X hpr hd0 hd1 hL hJ hM hBX hbX
    obtain ⟨hc, hrow⟩ := hJc S q X hJ
    have hpl : pre.length = ls.length := by omega
    refine CV.enter callees false (Orc.hv rfl rfl) Tryz.func81 rfl (by kernel_rfl) (Nat.le_of_ble_eq_true rfl) hBX ?_ (Orc.hw rfl rfl)
    repeat' first
      | refine CO.cons rfl ?_
      | refine CO.nil ?_
      | refine CV.seq ?_
      | refine CV.region callees ?_
      | refine CV.cond ?_
      | refine CV.block ?_
      | refine CV.skip ?_
      | refine CV.exit ?_
      | refine CV.ret ?_
      | refine CV.scope ?_
      | refine CV.draw callees (by decide +kernel) ?_
      | refine CH.cons rfl ?_
      | refine CH.nil ?_
      | refine CO.consG rfl ?_
      | refine CH.consG rfl ?_
      | refine CG.cons rfl ?_
      | refine CR.cons ?_
      | refine CR.nil ?_
      | refine CG.nil ?_
      | refine CG.consG rfl ?_
      | refine ⟨(rfl : plain _ = true), ?_⟩
      | refine ⟨(rfl : nilOk _ = some _), ?_⟩
      | refine ⟨_, ints_len (by assumption), ?_⟩
      | refine ⟨_, ints_addr (by assumption) (by omega) (by omega), ?_⟩
      | refine ⟨_, ints_load (by assumption) (by omega) (by omega), ?_⟩
      | refine ⟨(⟨by omega, by omega⟩ : inI64 _), ?_⟩
      | refine ⟨_, fun tm ha => step1_max rfl (ev_tmp ha rfl) (ev_tmp ha rfl), ?_⟩
      | refine ⟨_, fun tm ha => step1_min rfl (ev_tmp ha rfl) (ev_tmp ha rfl), ?_⟩
      | (refine ⟨_, cell_load ag22 hM.o rfl, ?_⟩)
      | (refine ⟨_, sl_len, ?_⟩)
      | (refine ⟨_, fS foC2 (by decide), ?_⟩)
      | (refine ⟨_, cell_load agLs hc rfl, ?_⟩)
      | (refine ⟨_, ls_len hrow, ?_⟩)
      | (refine ⟨_, cell_load agY hM.y rfl, ?_⟩)
      | (refine ⟨fun _ => ?_, fun _ => ?_⟩ <;> first | (exfalso; omega) | skip)
      | fail
    refine (hY S pre q X hL hJ hM hBX hbX).mono ?_
    rintro v X1 ⟨⟨rfl, hJ1, hfr⟩ | ⟨rfl, hK⟩, l1⟩
    · repeat' first
        | refine CO.cons rfl ?_
        | refine CO.nil ?_
        | refine CV.seq ?_
        | refine CV.region callees ?_
        | refine CV.cond ?_
        | refine CV.block ?_
        | refine CV.skip ?_
        | refine CV.exit ?_
        | refine CV.ret ?_
        | refine CV.scope ?_
        | refine CV.draw callees (by decide +kernel) ?_
        | refine CH.cons rfl ?_
        | refine CH.nil ?_
        | refine CO.consG rfl ?_
        | refine CH.consG rfl ?_
        | refine CG.cons rfl ?_
        | refine CR.cons ?_
        | refine CR.nil ?_
        | refine CG.nil ?_
        | refine CG.consG rfl ?_
        | refine ⟨(rfl : plain _ = true), ?_⟩
        | refine ⟨(rfl : nilOk _ = some _), ?_⟩
        | refine ⟨_, ints_len (by assumption), ?_⟩
        | refine ⟨_, ints_addr (by assumption) (by omega) (by omega), ?_⟩
        | refine ⟨_, ints_load (by assumption) (by omega) (by omega), ?_⟩
        | refine ⟨(⟨by omega, by omega⟩ : inI64 _), ?_⟩
        | refine ⟨_, fun tm ha => step1_max rfl (ev_tmp ha rfl) (ev_tmp ha rfl), ?_⟩
        | refine ⟨_, fun tm ha => step1_min rfl (ev_tmp ha rfl) (ev_tmp ha rfl), ?_⟩
        | (refine ⟨fun _ => ?_, fun _ => ?_⟩ <;> first | (exfalso; omega) | skip)
        | fail
      obtain ⟨cs, hp1, hp2⟩ := hM.p
      exact ⟨rfl, .inl ⟨rfl, q, hJ1, ⟨(hfr b (by omega)).trans hM.y, (hfr (b + 2) (by omega)).trans hM.o, (hfr (b + 3) (by omega)).trans hM.f, ⟨cs, (hfr q (.inr rfl)).trans hp1, hp2⟩, Nat.lt_of_lt_of_le hM.lt l1, hM.ge⟩⟩, l1⟩
    · repeat' first
        | refine CO.cons rfl ?_
        | refine CO.nil ?_
        | refine CV.seq ?_
        | refine CV.region callees ?_
        | refine CV.cond ?_
        | refine CV.block ?_
        | refine CV.skip ?_
        | refine CV.exit ?_
        | refine CV.ret ?_
        | refine CV.scope ?_
        | refine CV.draw callees (by decide +kernel) ?_
        | refine CH.cons rfl ?_
        | refine CH.nil ?_
        | refine CO.consG rfl ?_
        | refine CH.consG rfl ?_
        | refine CG.cons rfl ?_
        | refine CR.cons ?_
        | refine CR.nil ?_
        | refine CG.nil ?_
        | refine CG.consG rfl ?_
        | refine ⟨(rfl : plain _ = true), ?_⟩
        | refine ⟨(rfl : nilOk _ = some _), ?_⟩
        | refine ⟨_, ints_len (by assumption), ?_⟩
        | refine ⟨_, ints_addr (by assumption) (by omega) (by omega), ?_⟩
        | refine ⟨_, ints_load (by assumption) (by omega) (by omega), ?_⟩
        | refine ⟨(⟨by omega, by omega⟩ : inI64 _), ?_⟩
        | refine ⟨_, fun tm ha => step1_max rfl (ev_tmp ha rfl) (ev_tmp ha rfl), ?_⟩
        | refine ⟨_, fun tm ha => step1_min rfl (ev_tmp ha rfl) (ev_tmp ha rfl), ?_⟩
        | (refine ⟨fun _ => ?_, fun _ => ?_⟩ <;> first | (exfalso; omega) | skip)
        | fail
      exact ⟨rfl, .inr ⟨rfl, hK⟩, l1⟩
  | succ r ih =>
    intro pre o d S q X hpr hd0 hd1 hL hJ hM hBX hbX
    obtain ⟨hc, hrow⟩ := hJc S q X hJ
    have hfl : growL ls (r + 1) pre o d = growP ls r pre o d ls.length := rfl
    rw [hfl] at hL ⊢
    have hpl : pre.length < ls.length := by omega
    refine CV.enter callees false (Orc.hv rfl rfl) Tryz.func81 rfl (by kernel_rfl) (Nat.le_of_ble_eq_true rfl) hBX ?_ (Orc.hw rfl rfl)
    repeat' first
      | refine CO.cons rfl ?_
      | refine CO.nil ?_
      | refine CV.seq ?_
      | refine CV.region callees ?_
      | refine CV.cond ?_
      | refine CV.block ?_
      | refine CV.skip ?_
      | refine CV.exit ?_
      | refine CV.ret ?_
      | refine CV.scope ?_
      | refine CV.draw callees (by decide +kernel) ?_
      | refine CH.cons rfl ?_
      | refine CH.nil ?_
      | refine CO.consG rfl ?_
      | refine CH.consG rfl ?_
      | refine CG.cons rfl ?_
      | refine CR.cons ?_
      | refine CR.nil ?_
      | refine CG.nil ?_
      | refine CG.consG rfl ?_
      | refine ⟨(rfl : plain _ = true), ?_⟩
      | refine ⟨(rfl : nilOk _ = some _), ?_⟩
      | refine ⟨_, ints_len (by assumption), ?_⟩
      | refine ⟨_, ints_addr (by assumption) (by omega) (by omega), ?_⟩
      | refine ⟨_, ints_load (by assumption) (by omega) (by omega), ?_⟩
      | refine ⟨(⟨by omega, by omega⟩ : inI64 _), ?_⟩
      | refine ⟨_, fun tm ha => step1_max rfl (ev_tmp ha rfl) (ev_tmp ha rfl), ?_⟩
      | refine ⟨_, fun tm ha => step1_min rfl (ev_tmp ha rfl) (ev_tmp ha rfl), ?_⟩
      | (refine ⟨_, cell_load ag22 hM.o rfl, ?_⟩)
      | (refine ⟨_, sl_len, ?_⟩)
      | (refine ⟨_, fS foC2 (by decide), ?_⟩)
      | (refine ⟨_, cell_load agLs hc rfl, ?_⟩)
      | (refine ⟨_, ls_len hrow, ?_⟩)
      | (refine ⟨fun _ => ?_, fun _ => ?_⟩ <;> first | (exfalso; omega) | skip)
      | fail
    refine CV.loopc ?_
    refine WCv.rounds callees false (α := Nat × Nat) (fun (i, q) => [(0, VI o), (1, VI d), (2, .pointer (some ⟨b + 2, 0, none⟩)), (3, .pointer (some ⟨c, 0, none⟩)), (4, .pointer (some ⟨b, 0, none⟩)), (5, .pointer (some ⟨b + 3, 0, none⟩)), (22, sv), (23, VI ls.length), (24, VI i)]) (fun (i, q) Hz => i ≤ ls.length ∧ J (S ++ growP ls r pre o d i) q Hz ∧ MineC b c l q pre Hz ∧ X.n ≤ Hz.n) (fun (i, q) => ls.length - i) (0, q) (by repeat' first | exact trivial | refine ⟨rfl, ?_⟩ | refine ⟨slot_int (by (try simp only [Int.toNat_natCast]); omega), ?_⟩) ?_ ?_
    · exact ⟨by omega, by rw [show growP ls r pre o d 0 = [] from rfl, List.append_nil]; exact hJ, hM, Nat.le_refl _⟩
    clear hJ hM hc hrow q
    rintro ⟨i, q⟩ Hx ⟨hi, hJ, hM, lx⟩ hBx
    by_cases hi2 : i < ls.length
    · obtain ⟨hc, hrow⟩ := hJc _ q Hx hJ
      have hli := hls.lo i hi2
      have hhi := hls.hi i hi2
      have hbg := hM.ge
      have hltx := hM.lt
      repeat' first
        | refine CO.cons rfl ?_
        | refine CO.nil ?_
        | refine CV.seq ?_
        | refine CV.region callees ?_
        | refine CV.cond ?_
        | refine CV.block ?_
        | refine CV.skip ?_
        | refine CV.exit ?_
        | refine CV.ret ?_
        | refine CV.scope ?_
        | refine CV.draw callees (by decide +kernel) ?_
        | refine CH.cons rfl ?_
        | refine CH.nil ?_
        | refine CO.consG rfl ?_
        | refine CH.consG rfl ?_
        | refine CG.cons rfl ?_
        | refine CR.cons ?_
        | refine CR.nil ?_
        | refine CG.nil ?_
        | refine CG.consG rfl ?_
        | refine ⟨(rfl : plain _ = true), ?_⟩
        | refine ⟨(rfl : nilOk _ = some _), ?_⟩
        | refine ⟨_, ints_len (by assumption), ?_⟩
        | refine ⟨_, ints_addr (by assumption) (by omega) (by omega), ?_⟩
        | refine ⟨_, ints_load (by assumption) (by omega) (by omega), ?_⟩
        | refine ⟨(⟨by omega, by omega⟩ : inI64 _), ?_⟩
        | refine ⟨_, fun tm ha => step1_max rfl (ev_tmp ha rfl) (ev_tmp ha rfl), ?_⟩
        | refine ⟨_, fun tm ha => step1_min rfl (ev_tmp ha rfl) (ev_tmp ha rfl), ?_⟩
        | (refine ⟨_, ls_addr hrow (by omega) (by omega), ?_⟩)
        | (refine ⟨_, ls_load hrow hi2, ?_⟩)
        | (refine ⟨_, _, alLk, ?_⟩)
        | (refine ⟨fun _ => ?_, fun _ => ?_⟩ <;> first | (exfalso; omega) | skip)
        | fail
      generalize hs4 : Heap.new Hx _ = H4
      have hg4 := new_get hs4
      have k4 := new_keep hs4
      have n4 := new_n hs4
      obtain ⟨b4, hbn4⟩ : ∃ b, Heap.n Hx = b := ⟨_, rfl⟩
      rw [hbn4] at hg4 n4 ⊢
      repeat' first
        | refine CO.cons rfl ?_
        | refine CO.nil ?_
        | refine CV.seq ?_
        | refine CV.region callees ?_
        | refine CV.cond ?_
        | refine CV.block ?_
        | refine CV.skip ?_
        | refine CV.exit ?_
        | refine CV.ret ?_
        | refine CV.scope ?_
        | refine CV.draw callees (by decide +kernel) ?_
        | refine CH.cons rfl ?_
        | refine CH.nil ?_
        | refine CO.consG rfl ?_
        | refine CH.consG rfl ?_
        | refine CG.cons rfl ?_
        | refine CR.cons ?_
        | refine CR.nil ?_
        | refine CG.nil ?_
        | refine CG.consG rfl ?_
        | refine ⟨(rfl : plain _ = true), ?_⟩
        | refine ⟨(rfl : nilOk _ = some _), ?_⟩
        | refine ⟨_, ints_len (by assumption), ?_⟩
        | refine ⟨_, ints_addr (by assumption) (by omega) (by omega), ?_⟩
        | refine ⟨_, ints_load (by assumption) (by omega) (by omega), ?_⟩
        | refine ⟨(⟨by omega, by omega⟩ : inI64 _), ?_⟩
        | refine ⟨_, fun tm ha => step1_max rfl (ev_tmp ha rfl) (ev_tmp ha rfl), ?_⟩
        | refine ⟨_, fun tm ha => step1_min rfl (ev_tmp ha rfl) (ev_tmp ha rfl), ?_⟩
        | (refine ⟨fun _ => ?_, fun _ => ?_⟩ <;> first | (exfalso; omega) | skip)
        | fail
      refine ⟨_, _, stLk hg4, by omega, ?_⟩
      generalize hs5 : Heap.set H4 b4 _ = H5
      have hg5 : H5.get b4 = some (.cells (Lkl ls[i]!) 46 1) := set_get hs5
      have n5 := set_n hs5
      have o5 := set_old hs5
      have k5 : Keep Hx H5 := keep_put k4 (by omega) o5 n5
      have l5 := k5.1
      have hM5 := hM.keep k5 (by omega)
      have hJ5 : J (S ++ growP ls r pre o d i) q H5 := hJs _ q q Hx H5 hJ l5 (fun p hp _ _ => k5.2 p hp) (.inl rfl)
      have hsn : growP ls r pre o d (i + 1) = growP ls r pre o d i ++ (if takesB ls pre o d i then growL ls r (pre ++ [(i : Int)]) ls[i]!.t (soon d ls[i]!) else []) := growP_succ
      obtain ⟨x, hx⟩ : ∃ x, ls[i]! = x := ⟨_, rfl⟩
      rw [hx] at hsn hg5 hli hhi
      have htk : takesB ls pre o d i = (decide (x.f = o) && (decide (soon d x ≤ x.hi) && !decide ((i : Int) ∈ pre))) := by unfold takesB; rw [hx]
      have hmx : max (d + 1) x.lo = soon d x := rfl
      by_cases c1 : x.f = o
      · by_cases c2 : soon d x ≤ x.hi
        · repeat' first
            | refine CO.cons rfl ?_
            | refine CO.nil ?_
            | refine CV.seq ?_
            | refine CV.region callees ?_
            | refine CV.cond ?_
            | refine CV.block ?_
            | refine CV.skip ?_
            | refine CV.exit ?_
            | refine CV.ret ?_
            | refine CV.scope ?_
            | refine CV.draw callees (by decide +kernel) ?_
            | refine CH.cons rfl ?_
            | refine CH.nil ?_
            | refine CO.consG rfl ?_
            | refine CH.consG rfl ?_
            | refine CG.cons rfl ?_
            | refine CR.cons ?_
            | refine CR.nil ?_
            | refine CG.nil ?_
            | refine CG.consG rfl ?_
            | refine ⟨(rfl : plain _ = true), ?_⟩
            | refine ⟨(rfl : nilOk _ = some _), ?_⟩
            | refine ⟨_, ints_len (by assumption), ?_⟩
            | refine ⟨_, ints_addr (by assumption) (by omega) (by omega), ?_⟩
            | refine ⟨_, ints_load (by assumption) (by omega) (by omega), ?_⟩
            | refine ⟨(⟨by omega, by omega⟩ : inI64 _), ?_⟩
            | refine ⟨_, fun tm ha => step1_max rfl (ev_tmp ha rfl) (ev_tmp ha rfl), ?_⟩
            | refine ⟨_, fun tm ha => step1_min rfl (ev_tmp ha rfl) (ev_tmp ha rfl), ?_⟩
            | (refine ⟨_, fS foL0 (by decide), ?_⟩)
            | (refine ⟨_, fS foL2 (by decide), ?_⟩)
            | (refine ⟨_, fS foS0 (by decide), ?_⟩)
            | (refine ⟨_, fS foS1 (by decide), ?_⟩)
            | (refine ⟨_, cell_load ag3 hg5 rfl, ?_⟩)
            | (refine ⟨_, cell_load ag22 hM5.o rfl, ?_⟩)
            | (refine ⟨fun _ => ?_, fun _ => ?_⟩ <;> first | (exfalso; omega) | skip)
            | fail
          refine (contains_spec (by omega) hM5.row (by omega)).mono ?_
          by_cases hm : (i : Int) ∈ pre
          · rw [decide_eq_true hm]
            rintro v H6 ⟨rfl, rfl⟩
            repeat' first
              | refine CO.cons rfl ?_
              | refine CO.nil ?_
              | refine CV.seq ?_
              | refine CV.region callees ?_
              | refine CV.cond ?_
              | refine CV.block ?_
              | refine CV.skip ?_
              | refine CV.exit ?_
              | refine CV.ret ?_
              | refine CV.scope ?_
              | refine CV.draw callees (by decide +kernel) ?_
              | refine CH.cons rfl ?_
              | refine CH.nil ?_
              | refine CO.consG rfl ?_
              | refine CH.consG rfl ?_
              | refine CG.cons rfl ?_
              | refine CR.cons ?_
              | refine CR.nil ?_
              | refine CG.nil ?_
              | refine CG.consG rfl ?_
              | refine ⟨(rfl : plain _ = true), ?_⟩
              | refine ⟨(rfl : nilOk _ = some _), ?_⟩
              | refine ⟨_, ints_len (by assumption), ?_⟩
              | refine ⟨_, ints_addr (by assumption) (by omega) (by omega), ?_⟩
              | refine ⟨_, ints_load (by assumption) (by omega) (by omega), ?_⟩
              | refine ⟨(⟨by omega, by omega⟩ : inI64 _), ?_⟩
              | refine ⟨_, fun tm ha => step1_max rfl (ev_tmp ha rfl) (ev_tmp ha rfl), ?_⟩
              | refine ⟨_, fun tm ha => step1_min rfl (ev_tmp ha rfl) (ev_tmp ha rfl), ?_⟩
              | (refine ⟨fun _ => ?_, fun _ => ?_⟩ <;> first | (exfalso; omega) | skip)
              | fail
            refine ⟨(i + 1, q), (by repeat' first | exact trivial | refine ⟨rfl, ?_⟩ | refine ⟨slot_int (by (try simp only [Int.toNat_natCast]); omega), ?_⟩), (by (try dsimp only); omega), ?_⟩
            refine ⟨by omega, ?_, hM5, by omega⟩
            rw [hsn, htk, decide_eq_true hm]
            simpa using hJ5
          · rw [decide_eq_false hm]
            rintro v H6 ⟨rfl, rfl⟩
            obtain ⟨cs, hp1, hp2⟩ := hM5.p
            have hlt5 := hM5.lt
            repeat' first
              | refine CO.cons rfl ?_
              | refine CO.nil ?_
              | refine CV.seq ?_
              | refine CV.region callees ?_
              | refine CV.cond ?_
              | refine CV.block ?_
              | refine CV.skip ?_
              | refine CV.exit ?_
              | refine CV.ret ?_
              | refine CV.scope ?_
              | refine CV.draw callees (by decide +kernel) ?_
              | refine CH.cons rfl ?_
              | refine CH.nil ?_
              | refine CO.consG rfl ?_
              | refine CH.consG rfl ?_
              | refine CG.cons rfl ?_
              | refine CR.cons ?_
              | refine CR.nil ?_
              | refine CG.nil ?_
              | refine CG.consG rfl ?_
              | refine ⟨(rfl : plain _ = true), ?_⟩
              | refine ⟨(rfl : nilOk _ = some _), ?_⟩
              | refine ⟨_, ints_len (by assumption), ?_⟩
              | refine ⟨_, ints_addr (by assumption) (by omega) (by omega), ?_⟩
              | refine ⟨_, ints_load (by assumption) (by omega) (by omega), ?_⟩
              | refine ⟨(⟨by omega, by omega⟩ : inI64 _), ?_⟩
              | refine ⟨_, fun tm ha => step1_max rfl (ev_tmp ha rfl) (ev_tmp ha rfl), ?_⟩
              | refine ⟨_, fun tm ha => step1_min rfl (ev_tmp ha rfl) (ev_tmp ha rfl), ?_⟩
              | (refine ⟨_, cell_load ag22 hM5.o rfl, ?_⟩)
              | (refine ⟨_, _, build_one un22 one3 rfl, ?_⟩)
              | (refine ⟨fun _ => ?_, fun _ => ?_⟩ <;> first | (exfalso; omega) | skip)
              | fail
            refine pile_push (B := B) (y := (i : Int)) hp1 hp2 hlt5 (by omega) (by omega) ?_
            intro H7 hp7 hk7 n7
            have ho7 := (hk7 (b + 2) (by omega) (by omega)).trans hM5.o
            have hg7 := (hk7 b4 (by omega) (by omega)).trans hg5
            repeat' first
              | refine CO.cons rfl ?_
              | refine CO.nil ?_
              | refine CV.seq ?_
              | refine CV.region callees ?_
              | refine CV.cond ?_
              | refine CV.block ?_
              | refine CV.skip ?_
              | refine CV.exit ?_
              | refine CV.ret ?_
              | refine CV.scope ?_
              | refine CV.draw callees (by decide +kernel) ?_
              | refine CH.cons rfl ?_
              | refine CH.nil ?_
              | refine CO.consG rfl ?_
              | refine CH.consG rfl ?_
              | refine CG.cons rfl ?_
              | refine CR.cons ?_
              | refine CR.nil ?_
              | refine CG.nil ?_
              | refine CG.consG rfl ?_
              | refine ⟨(rfl : plain _ = true), ?_⟩
              | refine ⟨(rfl : nilOk _ = some _), ?_⟩
              | refine ⟨_, ints_len (by assumption), ?_⟩
              | refine ⟨_, ints_addr (by assumption) (by omega) (by omega), ?_⟩
              | refine ⟨_, ints_load (by assumption) (by omega) (by omega), ?_⟩
              | refine ⟨(⟨by omega, by omega⟩ : inI64 _), ?_⟩
              | refine ⟨_, fun tm ha => step1_max rfl (ev_tmp ha rfl) (ev_tmp ha rfl), ?_⟩
              | refine ⟨_, fun tm ha => step1_min rfl (ev_tmp ha rfl) (ev_tmp ha rfl), ?_⟩
              | (refine ⟨fun _ => ?_, fun _ => ?_⟩ <;> first | (exfalso; omega) | skip)
              | fail
            refine ⟨_, _, var_store sz26 ho7 rfl, by omega, ?_⟩
            generalize hs8 : Heap.set H7 (b + 2) _ = H8
            have hg8 : H8.get (b + 2) = some (.cells ([pile (H6.n + 1) (pre ++ [(i : Int)]).length]) 27 1) := set_get hs8
            have n8 := set_n hs8
            have o8 := set_old hs8
            have hM8 : MineC b c l (H6.n + 1) (pre ++ [(i : Int)]) H8 := ⟨(o8 b (by omega)).trans ((hk7 b (by omega) (by omega)).trans hM5.y), hg8, (o8 (b + 3) (by omega)).trans ((hk7 (b + 3) (by omega) (by omega)).trans hM5.f), ⟨_, (o8 _ (by omega)).trans hp7, List.take_of_length_le (by rw [List.length_map]; exact Nat.le_refl _)⟩, by omega, .inr (by omega)⟩
            have hJ8 : J (S ++ growP ls r pre o d i) (H6.n + 1) H8 := hJs _ q _ H6 H8 hJ5 (by omega) (fun p hp h1 h2 => (o8 p h2).trans (hk7 p hp h1)) (.inr (by omega))
            have hg8' := (o8 b4 (by omega)).trans hg7
            have hsub : (S ++ growP ls r pre o d i) ++ growL ls r (pre ++ [(i : Int)]) x.t (soon d x) <+: L := by
              refine List.IsPrefix.trans ?_ hL
              rw [List.append_assoc]
              have := growP_pre (ls := ls) (r := r) (pre := pre) (o := o) (d := d) (e := ls.length - (i + 1)) (k := i + 1)
              rw [hsn, htk, c1, decide_eq_true c2, decide_eq_false hm, show i + 1 + (ls.length - (i + 1)) = ls.length by omega] at this
              simp only [decide_true, Bool.not_false, Bool.and_self, if_true] at this
              exact List.prefix_append_right_inj S |>.2 this
            have hih := ih (pre ++ [(i : Int)]) x.t (soon d x) (S ++ growP ls r pre o d i) (H6.n + 1) H8 (by rw [List.length_append, List.length_singleton]; omega) (by unfold soon; omega) (by omega) hsub hJ8 hM8 (by omega) (by omega)
            rw [hmx]
            repeat' first
              | refine CO.cons rfl ?_
              | refine CO.nil ?_
              | refine CV.seq ?_
              | refine CV.region callees ?_
              | refine CV.cond ?_
              | refine CV.block ?_
              | refine CV.skip ?_
              | refine CV.exit ?_
              | refine CV.ret ?_
              | refine CV.scope ?_
              | refine CV.draw callees (by decide +kernel) ?_
              | refine CH.cons rfl ?_
              | refine CH.nil ?_
              | refine CO.consG rfl ?_
              | refine CH.consG rfl ?_
              | refine CG.cons rfl ?_
              | refine CR.cons ?_
              | refine CR.nil ?_
              | refine CG.nil ?_
              | refine CG.consG rfl ?_
              | refine ⟨(rfl : plain _ = true), ?_⟩
              | refine ⟨(rfl : nilOk _ = some _), ?_⟩
              | refine ⟨_, ints_len (by assumption), ?_⟩
              | refine ⟨_, ints_addr (by assumption) (by omega) (by omega), ?_⟩
              | refine ⟨_, ints_load (by assumption) (by omega) (by omega), ?_⟩
              | refine ⟨(⟨by omega, by omega⟩ : inI64 _), ?_⟩
              | refine ⟨_, fun tm ha => step1_max rfl (ev_tmp ha rfl) (ev_tmp ha rfl), ?_⟩
              | refine ⟨_, fun tm ha => step1_min rfl (ev_tmp ha rfl) (ev_tmp ha rfl), ?_⟩
              | (refine ⟨_, cell_load agG hM8.f rfl, ?_⟩)
              | (refine ⟨_, fS foL1 (by decide), ?_⟩)
              | (refine ⟨_, cell_load ag3 hg8' rfl, ?_⟩)
              | (refine ⟨fun _ => ?_, fun _ => ?_⟩ <;> first | (exfalso; omega) | skip)
              | fail
            refine hih.mono ?_
            rintro v X2 ⟨⟨rfl, q2, hJ2, hM2⟩ | ⟨rfl, hK⟩, l2⟩
            · have hlen2 : (pre ++ [(i : Int)]).length = pre.length + 1 := by simp
              repeat' first
                | refine CO.cons rfl ?_
                | refine CO.nil ?_
                | refine CV.seq ?_
                | refine CV.region callees ?_
                | refine CV.cond ?_
                | refine CV.block ?_
                | refine CV.skip ?_
                | refine CV.exit ?_
                | refine CV.ret ?_
                | refine CV.scope ?_
                | refine CV.draw callees (by decide +kernel) ?_
                | refine CH.cons rfl ?_
                | refine CH.nil ?_
                | refine CO.consG rfl ?_
                | refine CH.consG rfl ?_
                | refine CG.cons rfl ?_
                | refine CR.cons ?_
                | refine CR.nil ?_
                | refine CG.nil ?_
                | refine CG.consG rfl ?_
                | refine ⟨(rfl : plain _ = true), ?_⟩
                | refine ⟨(rfl : nilOk _ = some _), ?_⟩
                | refine ⟨_, ints_len (by assumption), ?_⟩
                | refine ⟨_, ints_addr (by assumption) (by omega) (by omega), ?_⟩
                | refine ⟨_, ints_load (by assumption) (by omega) (by omega), ?_⟩
                | refine ⟨(⟨by omega, by omega⟩ : inI64 _), ?_⟩
                | refine ⟨_, fun tm ha => step1_max rfl (ev_tmp ha rfl) (ev_tmp ha rfl), ?_⟩
                | refine ⟨_, fun tm ha => step1_min rfl (ev_tmp ha rfl) (ev_tmp ha rfl), ?_⟩
                | (refine ⟨_, cell_load ag22 hM2.o rfl, ?_⟩)
                | (refine ⟨_, sl_len, ?_⟩)
                | (refine ⟨_, sl_cut (by omega) (by omega), ?_⟩)
                | (refine ⟨fun _ => ?_, fun _ => ?_⟩ <;> first | (exfalso; omega) | skip)
                | fail
              refine ⟨_, _, var_store sz26 hM2.o rfl, by omega, ?_⟩
              generalize hs9 : Heap.set X2 (b + 2) _ = X3
              have hg9 : X3.get (b + 2) = some (.cells [pile q2 (((pre ++ [(i : Int)]).length : Int) - 1).toNat] 27 1) := set_get hs9
              have n9 := set_n hs9
              have o9 := set_old hs9
              rw [show (((pre ++ [(i : Int)]).length : Int) - 1).toNat = pre.length by omega] at hg9
              have hge2 := hM2.ge
              repeat' first
                | refine CO.cons rfl ?_
                | refine CO.nil ?_
                | refine CV.seq ?_
                | refine CV.region callees ?_
                | refine CV.cond ?_
                | refine CV.block ?_
                | refine CV.skip ?_
                | refine CV.exit ?_
                | refine CV.ret ?_
                | refine CV.scope ?_
                | refine CV.draw callees (by decide +kernel) ?_
                | refine CH.cons rfl ?_
                | refine CH.nil ?_
                | refine CO.consG rfl ?_
                | refine CH.consG rfl ?_
                | refine CG.cons rfl ?_
                | refine CR.cons ?_
                | refine CR.nil ?_
                | refine CG.nil ?_
                | refine CG.consG rfl ?_
                | refine ⟨(rfl : plain _ = true), ?_⟩
                | refine ⟨(rfl : nilOk _ = some _), ?_⟩
                | refine ⟨_, ints_len (by assumption), ?_⟩
                | refine ⟨_, ints_addr (by assumption) (by omega) (by omega), ?_⟩
                | refine ⟨_, ints_load (by assumption) (by omega) (by omega), ?_⟩
                | refine ⟨(⟨by omega, by omega⟩ : inI64 _), ?_⟩
                | refine ⟨_, fun tm ha => step1_max rfl (ev_tmp ha rfl) (ev_tmp ha rfl), ?_⟩
                | refine ⟨_, fun tm ha => step1_min rfl (ev_tmp ha rfl) (ev_tmp ha rfl), ?_⟩
                | (refine ⟨fun _ => ?_, fun _ => ?_⟩ <;> first | (exfalso; omega) | skip)
                | fail
              refine ⟨(i + 1, q2), (by repeat' first | exact trivial | refine ⟨rfl, ?_⟩ | refine ⟨slot_int (by (try simp only [Int.toNat_natCast]); omega), ?_⟩), (by (try dsimp only); omega), ?_⟩
              obtain ⟨cs2, hp3, hp4⟩ := hM2.p
              refine ⟨by omega, ?_, ⟨(o9 b (by omega)).trans hM2.y, hg9, (o9 (b + 3) (by omega)).trans hM2.f, ⟨cs2, (o9 q2 (by omega)).trans hp3, ?_⟩, by have := hM2.lt; omega, hge2⟩, by omega⟩
              · have h5 := hJs _ q2 q2 X2 X3 hJ2 (by omega) (fun p _ _ h => o9 p h) (.inl rfl)
                rw [hsn, htk, c1, decide_eq_true c2, decide_eq_false hm]
                simp only [decide_true, Bool.not_false, Bool.and_self, if_true]
                rw [← List.append_assoc]
                exact h5
              · have := congrArg (List.take pre.length) hp4
                rw [List.take_take, Nat.min_eq_left (by omega), ← List.map_take, List.take_append_of_le_length (Nat.le_refl _), List.take_length] at this
                exact this
            · repeat' first
                | refine CO.cons rfl ?_
                | refine CO.nil ?_
                | refine CV.seq ?_
                | refine CV.region callees ?_
                | refine CV.cond ?_
                | refine CV.block ?_
                | refine CV.skip ?_
                | refine CV.exit ?_
                | refine CV.ret ?_
                | refine CV.scope ?_
                | refine CV.draw callees (by decide +kernel) ?_
                | refine CH.cons rfl ?_
                | refine CH.nil ?_
                | refine CO.consG rfl ?_
                | refine CH.consG rfl ?_
                | refine CG.cons rfl ?_
                | refine CR.cons ?_
                | refine CR.nil ?_
                | refine CG.nil ?_
                | refine CG.consG rfl ?_
                | refine ⟨(rfl : plain _ = true), ?_⟩
                | refine ⟨(rfl : nilOk _ = some _), ?_⟩
                | refine ⟨_, ints_len (by assumption), ?_⟩
                | refine ⟨_, ints_addr (by assumption) (by omega) (by omega), ?_⟩
                | refine ⟨_, ints_load (by assumption) (by omega) (by omega), ?_⟩
                | refine ⟨(⟨by omega, by omega⟩ : inI64 _), ?_⟩
                | refine ⟨_, fun tm ha => step1_max rfl (ev_tmp ha rfl) (ev_tmp ha rfl), ?_⟩
                | refine ⟨_, fun tm ha => step1_min rfl (ev_tmp ha rfl) (ev_tmp ha rfl), ?_⟩
                | (refine ⟨fun _ => ?_, fun _ => ?_⟩ <;> first | (exfalso; omega) | skip)
                | fail
              exact ⟨rfl, .inr ⟨rfl, hK⟩, by omega⟩
        · repeat' first
            | refine CO.cons rfl ?_
            | refine CO.nil ?_
            | refine CV.seq ?_
            | refine CV.region callees ?_
            | refine CV.cond ?_
            | refine CV.block ?_
            | refine CV.skip ?_
            | refine CV.exit ?_
            | refine CV.ret ?_
            | refine CV.scope ?_
            | refine CV.draw callees (by decide +kernel) ?_
            | refine CH.cons rfl ?_
            | refine CH.nil ?_
            | refine CO.consG rfl ?_
            | refine CH.consG rfl ?_
            | refine CG.cons rfl ?_
            | refine CR.cons ?_
            | refine CR.nil ?_
            | refine CG.nil ?_
            | refine CG.consG rfl ?_
            | refine ⟨(rfl : plain _ = true), ?_⟩
            | refine ⟨(rfl : nilOk _ = some _), ?_⟩
            | refine ⟨_, ints_len (by assumption), ?_⟩
            | refine ⟨_, ints_addr (by assumption) (by omega) (by omega), ?_⟩
            | refine ⟨_, ints_load (by assumption) (by omega) (by omega), ?_⟩
            | refine ⟨(⟨by omega, by omega⟩ : inI64 _), ?_⟩
            | refine ⟨_, fun tm ha => step1_max rfl (ev_tmp ha rfl) (ev_tmp ha rfl), ?_⟩
            | refine ⟨_, fun tm ha => step1_min rfl (ev_tmp ha rfl) (ev_tmp ha rfl), ?_⟩
            | (refine ⟨_, fS foL0 (by decide), ?_⟩)
            | (refine ⟨_, fS foL2 (by decide), ?_⟩)
            | (refine ⟨_, fS foS0 (by decide), ?_⟩)
            | (refine ⟨_, fS foS1 (by decide), ?_⟩)
            | (refine ⟨_, cell_load ag3 hg5 rfl, ?_⟩)
            | (refine ⟨fun _ => ?_, fun _ => ?_⟩ <;> first | (exfalso; omega) | skip)
            | fail
          refine ⟨(i + 1, q), (by repeat' first | exact trivial | refine ⟨rfl, ?_⟩ | refine ⟨slot_int (by (try simp only [Int.toNat_natCast]); omega), ?_⟩), (by (try dsimp only); omega), ?_⟩
          refine ⟨by omega, ?_, hM5, by omega⟩
          rw [hsn, htk, decide_eq_false c2]
          simpa using hJ5
      · repeat' first
          | refine CO.cons rfl ?_
          | refine CO.nil ?_
          | refine CV.seq ?_
          | refine CV.region callees ?_
          | refine CV.cond ?_
          | refine CV.block ?_
          | refine CV.skip ?_
          | refine CV.exit ?_
          | refine CV.ret ?_
          | refine CV.scope ?_
          | refine CV.draw callees (by decide +kernel) ?_
          | refine CH.cons rfl ?_
          | refine CH.nil ?_
          | refine CO.consG rfl ?_
          | refine CH.consG rfl ?_
          | refine CG.cons rfl ?_
          | refine CR.cons ?_
          | refine CR.nil ?_
          | refine CG.nil ?_
          | refine CG.consG rfl ?_
          | refine ⟨(rfl : plain _ = true), ?_⟩
          | refine ⟨(rfl : nilOk _ = some _), ?_⟩
          | refine ⟨_, ints_len (by assumption), ?_⟩
          | refine ⟨_, ints_addr (by assumption) (by omega) (by omega), ?_⟩
          | refine ⟨_, ints_load (by assumption) (by omega) (by omega), ?_⟩
          | refine ⟨(⟨by omega, by omega⟩ : inI64 _), ?_⟩
          | refine ⟨_, fun tm ha => step1_max rfl (ev_tmp ha rfl) (ev_tmp ha rfl), ?_⟩
          | refine ⟨_, fun tm ha => step1_min rfl (ev_tmp ha rfl) (ev_tmp ha rfl), ?_⟩
          | (refine ⟨_, fS foL0 (by decide), ?_⟩)
          | (refine ⟨_, fS foL2 (by decide), ?_⟩)
          | (refine ⟨_, fS foS0 (by decide), ?_⟩)
          | (refine ⟨_, fS foS1 (by decide), ?_⟩)
          | (refine ⟨_, cell_load ag3 hg5 rfl, ?_⟩)
          | (refine ⟨fun _ => ?_, fun _ => ?_⟩ <;> first | (exfalso; omega) | skip)
          | fail
        refine ⟨(i + 1, q), (by repeat' first | exact trivial | refine ⟨rfl, ?_⟩ | refine ⟨slot_int (by (try simp only [Int.toNat_natCast]); omega), ?_⟩), (by (try dsimp only); omega), ?_⟩
        refine ⟨by omega, ?_, hM5, by omega⟩
        rw [hsn, htk, decide_eq_false c1]
        simpa using hJ5
    obtain rfl : i = ls.length := by omega
    repeat' first
      | refine CO.cons rfl ?_
      | refine CO.nil ?_
      | refine CV.seq ?_
      | refine CV.region callees ?_
      | refine CV.cond ?_
      | refine CV.block ?_
      | refine CV.skip ?_
      | refine CV.exit ?_
      | refine CV.ret ?_
      | refine CV.scope ?_
      | refine CV.draw callees (by decide +kernel) ?_
      | refine CH.cons rfl ?_
      | refine CH.nil ?_
      | refine CO.consG rfl ?_
      | refine CH.consG rfl ?_
      | refine CG.cons rfl ?_
      | refine CR.cons ?_
      | refine CR.nil ?_
      | refine CG.nil ?_
      | refine CG.consG rfl ?_
      | refine ⟨(rfl : plain _ = true), ?_⟩
      | refine ⟨(rfl : nilOk _ = some _), ?_⟩
      | refine ⟨_, ints_len (by assumption), ?_⟩
      | refine ⟨_, ints_addr (by assumption) (by omega) (by omega), ?_⟩
      | refine ⟨_, ints_load (by assumption) (by omega) (by omega), ?_⟩
      | refine ⟨(⟨by omega, by omega⟩ : inI64 _), ?_⟩
      | refine ⟨_, fun tm ha => step1_max rfl (ev_tmp ha rfl) (ev_tmp ha rfl), ?_⟩
      | refine ⟨_, fun tm ha => step1_min rfl (ev_tmp ha rfl) (ev_tmp ha rfl), ?_⟩
      | (refine ⟨fun _ => ?_, fun _ => ?_⟩ <;> first | (exfalso; omega) | skip)
      | fail
    exact ⟨rfl, .inl ⟨rfl, q, hJ, hM⟩, lx⟩
end Go.Proofs.YtijimplcjaeneaaGreatDoor

