/- Several texts in one. -/
import Derived.Test.YtijimplcjaeneaaO1
set_option linter.unusedVariables false
set_option linter.unusedSimpArgs false

/- Links, spans and chains as cells; what is within bounds. -/
namespace Go.Proofs.Ytijimplcjaeneaa
open Go.AI
structure Lk where
  f : Int
  t : Int
  lo : Int
  hi : Int
deriving Inhabited, DecidableEq
abbrev Lkl (l : Lk) : List Value := [VI l.f, VI l.t, VI l.lo, VI l.hi]
abbrev Lkv (l : Lk) : Value := .agg #[VI l.f, VI l.t, VI l.lo, VI l.hi]
abbrev Spv (a b : Int) : Value := .agg #[VI a, VI b]
abbrev Chl (m a b : Int) (s : Value) : List Value := [VI m, VI a, VI b, s]
abbrev Chv (m a b : Int) (s : Value) : Value := .agg #[VI m, VI a, VI b, s]
theorem agLk : isAggB Try.prog 28 = some true := by kernel_rfl
theorem szLk : sizeB Try.prog 28 = some 4 := by kernel_rfl
theorem agSp : isAggB Try.prog 23 = some true := by kernel_rfl
theorem szSp : sizeB Try.prog 23 = some 2 := by kernel_rfl
theorem agCh : isAggB Try.prog 26 = some true := by kernel_rfl
theorem szCh : sizeB Try.prog 26 = some 4 := by kernel_rfl
theorem agLs : isAggB Try.prog 24 = some false := by kernel_rfl
theorem szLs : sizeB Try.prog 24 = some 1 := by kernel_rfl
theorem unLs : Try.prog.underlying 24 = some (.slice 28) := by kernel_rfl
theorem foL0 : fieldOff Try.prog 28 0 = some (0, 1) := by kernel_rfl
theorem foL1 : fieldOff Try.prog 28 1 = some (1, 1) := by kernel_rfl
theorem foL2 : fieldOff Try.prog 28 2 = some (2, 2) := by kernel_rfl
theorem foS0 : fieldOff Try.prog 23 0 = some (0, 1) := by kernel_rfl
theorem foS1 : fieldOff Try.prog 23 1 = some (1, 1) := by kernel_rfl
theorem foC0 : fieldOff Try.prog 26 0 = some (0, 1) := by kernel_rfl
theorem foC1 : fieldOff Try.prog 26 1 = some (1, 2) := by kernel_rfl
theorem foC2 : fieldOff Try.prog 26 2 = some (3, 1) := by kernel_rfl
theorem zeroLk : zeroCellsW Try.prog 28 = some (Lkl ⟨0, 0, 0, 0⟩) := by kernel_rfl
theorem zeroCh : zeroCellsW Try.prog 26 = some (Chl 0 0 0 nilS) := by kernel_rfl
theorem alLk {H : Heap} : sAlloc Try.prog H 28 = some (.pointer (some ⟨H.n, 0, none⟩), H.new (.cells (Lkl ⟨0, 0, 0, 0⟩) 28 1), H.n) := alloc_ofW zeroLk
theorem alCh {H : Heap} : sAlloc Try.prog H 26 = some (.pointer (some ⟨H.n, 0, none⟩), H.new (.cells (Chl 0 0 0 nilS) 26 1), H.n) := alloc_ofW zeroCh
theorem stLk {H : Heap} {b k : Nat} {c d : Lk} {e : TypeId} (hg : H.get b = some (.cells (Lkl c) e (k + 1))) : astore Try.prog 28 H (Lkv d) (.pointer (some ⟨b, 0, none⟩)) = some (H.set b (.cells (Lkl d) e (k + 1)), b) := store_allW (vs := Lkl d) hg rfl szLk rfl
theorem ldLk {H : Heap} {b : Nat} {c : Lk} {e : TypeId} {k : Nat} (hg : H.get b = some (.cells (Lkl c) e k)) : aload Try.prog 28 H (.pointer (some ⟨b, 0, none⟩)) = some (Lkv c) := agg_load agLk szLk hg (Nat.le_refl _)
theorem ldLkS {H : Heap} {b : Nat} {c : Lk} {e : TypeId} {k : Nat} (hg : H.get b = some (.cells (Lkl c) e k)) : aload Try.prog 23 H (.pointer (some ⟨b, 0 + 2, none⟩)) = some (Spv c.lo c.hi) := agg_load agSp szSp hg (Nat.le_refl _)
theorem ldCh {H : Heap} {b : Nat} {m x y : Int} {s : Value} {e : TypeId} {k : Nat} (hg : H.get b = some (.cells (Chl m x y s) e k)) : aload Try.prog 26 H (.pointer (some ⟨b, 0, none⟩)) = some (Chv m x y s) := agg_load agCh szCh hg (Nat.le_refl _)
theorem ldChS {H : Heap} {b : Nat} {m x y : Int} {s : Value} {e : TypeId} {k : Nat} (hg : H.get b = some (.cells (Chl m x y s) e k)) : aload Try.prog 23 H (.pointer (some ⟨b, 0 + 1, none⟩)) = some (Spv x y) := agg_load agSp szSp hg (Nat.le_of_ble_eq_true rfl)
theorem boxCh {H : Heap} {m x y : Int} {s : Value} {e : TypeId} (h : s.cells.toList = [s]) : anew H (Value.cells (Chv m x y s)).toList e 1 = H.new (.cells (Chl m x y s) e 1) := by
  have : (Value.cells (Chv m x y s)).toList = VI m :: VI x :: VI y :: (s.cells.toList ++ []) := by rw [h]; rfl
  rw [this, h]; rfl
theorem lk_at {l : List Lk} {j : Nat} (hj : j < l.length) : (l.map Lkl)[j]? = some (Lkl l[j]!) := by rw [List.getElem?_map, List.getElem?_eq_getElem hj, getElem!_pos l j hj]; rfl
theorem ls_len {H : Heap} {v : Value} {l : List Lk} (h : RowS 4 H v (l.map Lkl)) : alen Try.prog H 24 v = some (.int .i64 l.length) := by
  have := h.alen unLs; rwa [List.length_map] at this
theorem ls_addr {H : Heap} {v : Value} {l : List Lk} (h : RowS 4 H v (l.map Lkl)) {n : Int} (h0 : 0 ≤ n) (h1 : n < l.length) : aindexAddr Try.prog 24 v (.int .i64 n) = some (elemS v 4 n.toNat) := h.addr unLs szLk h0 (by rw [List.length_map]; exact h1)
theorem ls_load {H : Heap} {v : Value} {l : List Lk} (h : RowS 4 H v (l.map Lkl)) {j : Nat} (hj : j < l.length) : aload Try.prog 28 H (elemS v 4 j) = some (Lkv l[j]!) := h.load agLk szLk (lk_at hj)
/-- What is within bounds. -/
def inB (n a b : Int) : Bool := decide (a ≤ n) && decide (n ≤ b)
set_option maxRecDepth 100000 in
theorem within_spec [Orc] {B : Nat} {H : Heap} {n a b : Int} (hB : B ≤ H.n) :
    CallB Try.prog B 110 [VI n, VI a, VI b] H (fun v H' => v = .bool (inB n a b) ∧ H' = H) := by
  refine CV.enter callees false (Orc.hv rfl rfl) Try.func110 rfl (by kernel_rfl) (Nat.le_of_ble_eq_true rfl) hB ?_ (Orc.hw rfl rfl)
  by_cases h1 : a ≤ n
  · by_cases h2 : n ≤ b
    · repeat' first
        | refine CO.cons rfl ?_
        | refine CO.nil ?_
        | refine CV.seq ?_
        | refine CV.region callees ?_
        | refine CV.ret ?_
        | refine CO.consG rfl ?_
        | (refine ⟨fun _ => ?_, fun _ => ?_⟩ <;> first | (exfalso; omega) | skip)
        | fail
      exact ⟨rfl, by simp [inB, h1, h2], rfl⟩
    · repeat' first
        | refine CO.cons rfl ?_
        | refine CO.nil ?_
        | refine CV.seq ?_
        | refine CV.region callees ?_
        | refine CV.ret ?_
        | refine CO.consG rfl ?_
        | (refine ⟨fun _ => ?_, fun _ => ?_⟩ <;> first | (exfalso; omega) | skip)
        | fail
      exact ⟨rfl, by simp [inB, h2], rfl⟩
  · repeat' first
      | refine CO.cons rfl ?_
      | refine CO.nil ?_
      | refine CV.seq ?_
      | refine CV.region callees ?_
      | refine CV.ret ?_
      | refine CO.consG rfl ?_
      | (refine ⟨fun _ => ?_, fun _ => ?_⟩ <;> first | (exfalso; omega) | skip)
      | fail
    exact ⟨rfl, by simp [inB, h1], rfl⟩
set_option maxRecDepth 100000 in
theorem isOwner_spec [Orc] {B : Nat} {H : Heap} {n : Int} (hB : B ≤ H.n) :
    CallB Try.prog B 83 [VI n] H (fun v H' => v = .bool (inB n 0 19) ∧ H' = H) := by
  refine CV.enter callees false (Orc.hv rfl rfl) Try.func83 rfl (by kernel_rfl) (Nat.le_of_ble_eq_true rfl) hB ?_ (Orc.hw rfl rfl)
  repeat' first
    | refine CO.cons rfl ?_
    | refine CO.nil ?_
    | refine CV.seq ?_
    | refine CV.region callees ?_
    | fail
  refine (within_spec hB).mono ?_
  rintro v H' ⟨rfl, rfl⟩
  repeat' first
    | refine CO.cons rfl ?_
    | refine CO.nil ?_
    | refine CV.ret ?_
    | fail
  exact ⟨rfl, rfl, rfl⟩
set_option maxRecDepth 100000 in
theorem isDay_spec [Orc] {B : Nat} {H : Heap} {n : Int} (hB : B ≤ H.n) :
    CallB Try.prog B 89 [VI n] H (fun v H' => v = .bool (inB n 0 100000) ∧ H' = H) := by
  refine CV.enter callees false (Orc.hv rfl rfl) Try.func89 rfl (by kernel_rfl) (Nat.le_of_ble_eq_true rfl) hB ?_ (Orc.hw rfl rfl)
  repeat' first
    | refine CO.cons rfl ?_
    | refine CO.nil ?_
    | refine CV.seq ?_
    | refine CV.region callees ?_
    | fail
  refine (within_spec hB).mono ?_
  rintro v H' ⟨rfl, rfl⟩
  repeat' first
    | refine CO.cons rfl ?_
    | refine CO.nil ?_
    | refine CV.ret ?_
    | fail
  exact ⟨rfl, rfl, rfl⟩
/-- The error of a span. -/
def spanE (lo hi a b : Int) : Int := bif inB lo a b then (bif inB hi a b then (if hi < lo then 11 else 0) else 2) else 2
set_option maxRecDepth 100000 in
theorem spanCheck_spec [Orc] {B : Nat} {H : Heap} {lo hi a b : Int} (hB : B ≤ H.n) :
    CallB Try.prog B 84 [Spv lo hi, VI a, VI b] H (fun v H' => v = VI (spanE lo hi a b) ∧ Keep H H') := by
  refine CV.enter callees false (Orc.hv rfl rfl) Try.func84 rfl (by kernel_rfl) (Nat.le_of_ble_eq_true rfl) hB ?_ (Orc.hw rfl rfl)
  repeat' first
    | refine CO.cons rfl ?_
    | refine CO.nil ?_
    | refine CV.seq ?_
    | refine CV.region callees ?_
    | (refine ⟨(rfl : notTuple _ = true), ?_⟩)
    | fail
  generalize hs0' : anew H _ _ _ = H0
  have hs0 : H.new (.cells [VI lo, VI hi] 23 1) = H0 := hs0'
  have hg0 := new_get hs0
  have k0 := new_keep hs0
  have n0 := new_n hs0
  obtain ⟨b0, hbn0⟩ : ∃ b, H.n = b := ⟨_, rfl⟩
  rw [hbn0] at hg0 n0 ⊢
  repeat' first
    | refine CO.cons rfl ?_
    | (refine ⟨_, fS foS0 (by decide), ?_⟩)
    | (refine ⟨_, cell_load ag3 hg0 rfl, ?_⟩)
    | fail
  refine (within_spec (by omega)).mono ?_
  cases c1 : inB lo a b
  · rintro v H1 ⟨rfl, rfl⟩
    repeat' first
      | refine CO.cons rfl ?_
      | refine CO.nil ?_
      | refine CV.seq ?_
      | refine CV.region callees ?_
      | refine CV.cond ?_
      | refine CV.ret ?_
      | refine CO.consG rfl ?_
      | fail
    exact ⟨rfl, by simp [spanE, c1], k0⟩
  rintro v H1 ⟨rfl, rfl⟩
  repeat' first
    | refine CO.cons rfl ?_
    | refine CO.consG rfl ?_
    | (refine ⟨_, fS foS1 (by decide), ?_⟩)
    | (refine ⟨_, cell_load ag3 hg0 rfl, ?_⟩)
    | fail
  refine (within_spec (by omega)).mono ?_
  cases c2 : inB hi a b
  · rintro v H1 ⟨rfl, rfl⟩
    repeat' first
      | refine CO.cons rfl ?_
      | refine CO.nil ?_
      | refine CV.seq ?_
      | refine CV.region callees ?_
      | refine CV.cond ?_
      | refine CV.ret ?_
      | refine CO.consG rfl ?_
      | fail
    exact ⟨rfl, by simp [spanE, c1, c2], k0⟩
  rintro v H1 ⟨rfl, rfl⟩
  by_cases h : hi < lo
  · repeat' first
      | refine CO.cons rfl ?_
      | refine CO.nil ?_
      | refine CV.seq ?_
      | refine CV.region callees ?_
      | refine CV.cond ?_
      | refine CV.skip ?_
      | refine CV.ret ?_
      | refine CO.consG rfl ?_
      | (refine ⟨_, fS foS0 (by decide), ?_⟩)
      | (refine ⟨_, fS foS1 (by decide), ?_⟩)
      | (refine ⟨_, cell_load ag3 hg0 rfl, ?_⟩)
      | (refine ⟨fun _ => ?_, fun _ => ?_⟩ <;> first | (exfalso; omega) | skip)
      | fail
    exact ⟨rfl, by simp [spanE, c1, c2, h], k0⟩
  · repeat' first
      | refine CO.cons rfl ?_
      | refine CO.nil ?_
      | refine CV.seq ?_
      | refine CV.region callees ?_
      | refine CV.cond ?_
      | refine CV.skip ?_
      | refine CV.ret ?_
      | refine CO.consG rfl ?_
      | (refine ⟨_, fS foS0 (by decide), ?_⟩)
      | (refine ⟨_, fS foS1 (by decide), ?_⟩)
      | (refine ⟨_, cell_load ag3 hg0 rfl, ?_⟩)
      | (refine ⟨fun _ => ?_, fun _ => ?_⟩ <;> first | (exfalso; omega) | skip)
      | fail
    exact ⟨rfl, by simp [spanE, c1, c2, h], k0⟩
/-- The error of a link. -/
def linkE (l : Lk) : Int := bif inB l.f 0 19 then (bif inB l.t 0 19 then (if l.f = l.t then 3 else spanE l.lo l.hi 0 100000) else 2) else 2
set_option maxRecDepth 100000 in
theorem checkLink_spec [Orc] {B : Nat} {H : Heap} {l : Lk} (hB : B ≤ H.n) :
    CallB Try.prog B 85 [Lkv l] H (fun v H' => v = VI (linkE l) ∧ Keep H H') := by
  refine CV.enter callees false (Orc.hv rfl rfl) Try.func85 rfl (by kernel_rfl) (Nat.le_of_ble_eq_true rfl) hB ?_ (Orc.hw rfl rfl)
  repeat' first
    | refine CO.cons rfl ?_
    | refine CO.nil ?_
    | refine CV.seq ?_
    | refine CV.region callees ?_
    | (refine ⟨(rfl : notTuple _ = true), ?_⟩)
    | fail
  generalize hs0' : anew H _ _ _ = H0
  have hs0 : H.new (.cells (Lkl l) 28 1) = H0 := hs0'
  have hg0 := new_get hs0
  have k0 := new_keep hs0
  have n0 := new_n hs0
  obtain ⟨b0, hbn0⟩ : ∃ b, H.n = b := ⟨_, rfl⟩
  rw [hbn0] at hg0 n0 ⊢
  repeat' first
    | refine CO.cons rfl ?_
    | (refine ⟨_, fS foL0 (by decide), ?_⟩)
    | (refine ⟨_, cell_load ag3 hg0 rfl, ?_⟩)
    | fail
  refine (isOwner_spec (by omega)).mono ?_
  cases c1 : inB l.f 0 19
  · rintro v H1 ⟨rfl, rfl⟩
    repeat' first
      | refine CO.cons rfl ?_
      | refine CO.nil ?_
      | refine CV.seq ?_
      | refine CV.region callees ?_
      | refine CV.cond ?_
      | refine CV.ret ?_
      | refine CO.consG rfl ?_
      | fail
    exact ⟨rfl, by simp [linkE, c1], k0⟩
  rintro v H1 ⟨rfl, rfl⟩
  repeat' first
    | refine CO.cons rfl ?_
    | refine CO.consG rfl ?_
    | (refine ⟨_, fS foL1 (by decide), ?_⟩)
    | (refine ⟨_, cell_load ag3 hg0 rfl, ?_⟩)
    | fail
  refine (isOwner_spec (by omega)).mono ?_
  cases c2 : inB l.t 0 19
  · rintro v H1 ⟨rfl, rfl⟩
    repeat' first
      | refine CO.cons rfl ?_
      | refine CO.nil ?_
      | refine CV.seq ?_
      | refine CV.region callees ?_
      | refine CV.cond ?_
      | refine CV.ret ?_
      | refine CO.consG rfl ?_
      | fail
    exact ⟨rfl, by simp [linkE, c1, c2], k0⟩
  rintro v H1 ⟨rfl, rfl⟩
  by_cases h : l.f = l.t
  · repeat' first
      | refine CO.cons rfl ?_
      | refine CO.nil ?_
      | refine CV.seq ?_
      | refine CV.region callees ?_
      | refine CV.cond ?_
      | refine CV.skip ?_
      | refine CV.ret ?_
      | refine CO.consG rfl ?_
      | (refine ⟨_, fS foL0 (by decide), ?_⟩)
      | (refine ⟨_, fS foL1 (by decide), ?_⟩)
      | (refine ⟨_, cell_load ag3 hg0 rfl, ?_⟩)
      | (refine ⟨fun _ => ?_, fun _ => ?_⟩ <;> first | (exfalso; omega) | skip)
      | fail
    exact ⟨rfl, by simp [linkE, c1, c2, h], k0⟩
  · repeat' first
      | refine CO.cons rfl ?_
      | refine CO.nil ?_
      | refine CV.seq ?_
      | refine CV.region callees ?_
      | refine CV.cond ?_
      | refine CV.skip ?_
      | refine CO.consG rfl ?_
      | (refine ⟨_, fS foL0 (by decide), ?_⟩)
      | (refine ⟨_, fS foL1 (by decide), ?_⟩)
      | (refine ⟨_, fS foL2 (by decide), ?_⟩)
      | (refine ⟨_, cell_load ag3 hg0 rfl, ?_⟩)
      | (refine ⟨_, ldLkS hg0, ?_⟩)
      | (refine ⟨fun _ => ?_, fun _ => ?_⟩ <;> first | (exfalso; omega) | skip)
      | fail
    refine (spanCheck_spec (by omega)).mono ?_
    rintro v H2 ⟨rfl, k2⟩
    repeat' first
      | refine CO.cons rfl ?_
      | refine CO.nil ?_
      | refine CV.ret ?_
      | fail
    exact ⟨rfl, by simp [linkE, c1, c2, h], k0.trans k2⟩
end Go.Proofs.Ytijimplcjaeneaa



/- All orders of the links of a chain that stories have, handed out one by one. -/
namespace Go.Proofs.Ytijimplcjaeneaa
open Go.AI
theorem sl_len {X : Heap} {b n c : Nat} : alen Try.prog X 29 (.slice (some ⟨b, 0, none⟩) n c) = some (VI n) := by simp [alen, un22]
theorem sl_cut {b n c : Nat} {k : Int} (h0 : 0 ≤ k) (h1 : k ≤ n) : aslice Try.prog 29 (.slice (some ⟨b, 0, none⟩) n c) none (some (some (VI k))) = some (.slice (some ⟨b, 0, none⟩) k.toNat c) := by
  simp [aslice, un22, sz3, bound, h0, h1]
/-- The soonest day of a link behind a day. -/
def soon (d : Int) (l : Lk) : Int := max (d + 1) l.lo
def takesB (ls : List Lk) (pre : List Int) (o d : Int) (i : Nat) : Bool := decide (ls[i]!.f = o) && (decide (soon d ls[i]! ≤ ls[i]!.hi) && !decide ((i : Int) ∈ pre))
/-- All orders that begin so, with so many more links, for an owner who has the thing from a day on. -/
def growL (ls : List Lk) : Nat → List Int → Int → Int → List (List Int)
  | 0, pre, _, _ => [pre]
  | r + 1, pre, o, d => (List.range ls.length).flatMap fun (i : Nat) => if takesB ls pre o d i then growL ls r (pre ++ [(i : Int)]) ls[i]!.t (soon d ls[i]!) else []
def growP (ls : List Lk) (r : Nat) (pre : List Int) (o d : Int) (k : Nat) : List (List Int) := (List.range k).flatMap fun (i : Nat) => if takesB ls pre o d i then growL ls r (pre ++ [(i : Int)]) ls[i]!.t (soon d ls[i]!) else []
theorem growP_succ {ls : List Lk} {r : Nat} {pre : List Int} {o d : Int} {k : Nat} : growP ls r pre o d (k + 1) = growP ls r pre o d k ++ (if takesB ls pre o d k then growL ls r (pre ++ [(k : Int)]) ls[k]!.t (soon d ls[k]!) else []) := by
  unfold growP
  rw [List.range_succ, List.flatMap_append]
  simp
theorem growP_pre {ls : List Lk} {r : Nat} {pre : List Int} {o d : Int} : ∀ {e k : Nat}, growP ls r pre o d k <+: growP ls r pre o d (k + e)
  | 0, k => List.prefix_refl _
  | e + 1, k => by
    refine List.IsPrefix.trans (growP_pre (e := e)) ?_
    rw [show k + (e + 1) = k + e + 1 by omega, growP_succ]
    exact List.prefix_append _ _
abbrev yT : TypeId := 95
abbrev gT : TypeId := 164
theorem agY : isAggB Try.prog yT = some false := by kernel_rfl
theorem agG : isAggB Try.prog gT = some false := by kernel_rfl
theorem szG : sizeB Try.prog gT = some 1 := by kernel_rfl
theorem sz26 : sizeB Try.prog 29 = some 1 := by kernel_rfl
theorem zcG : zeroCellsW Try.prog gT = some [.nilFunc] := by kernel_rfl
theorem alG {H : Heap} : sAlloc Try.prog H gT = some (.pointer (some ⟨H.n, 0, none⟩), H.new (.cells [.nilFunc] gT 1), H.n) := alloc_ofW zcG
theorem zc26 : zeroCellsW Try.prog 29 = some [nilS] := by kernel_rfl
theorem al26 {H : Heap} : sAlloc Try.prog H 29 = some (.pointer (some ⟨H.n, 0, none⟩), H.new (.cells [nilS] 29 1), H.n) := alloc_ofW zc26
/-- The function that adds links. -/
abbrev growV (c b : Nat) : Value := .func (.func 123) #[] #[.pointer (some ⟨b + 2, 0, none⟩), .pointer (some ⟨c, 0, none⟩), .pointer (some ⟨b, 0, none⟩), .pointer (some ⟨b + 3, 0, none⟩)]
abbrev pile (q n : Nat) : Value := .slice (some ⟨q, 0, none⟩) n 0
/-- What is its own. -/
structure MineC (b c l q : Nat) (pre : List Int) (X : Heap) : Prop where
  y : X.get b = some (.cells [.func (.yield l) #[] #[]] yT 1)
  o : X.get (b + 2) = some (.cells [pile q pre.length] 29 1)
  f : X.get (b + 3) = some (.cells [growV c b] gT 1)
  p : ∃ cs, X.get q = some (.cells cs 3 2) ∧ cs.take pre.length = pre.map VI
  lt : q < X.n
  ge : q = b + 1 ∨ b + 4 ≤ q
theorem MineC.keep {b c l q : Nat} {pre : List Int} {X X' : Heap} (h : MineC b c l q pre X) (k : Keep X X') (hb : b + 4 ≤ X.n) : MineC b c l q pre X' := by
  obtain ⟨cs, h1, h2⟩ := h.p
  exact ⟨(k.2 _ (by omega)).trans h.y, (k.2 _ (by omega)).trans h.o, (k.2 _ (by omega)).trans h.f, ⟨cs, (k.2 _ h.lt).trans h1, h2⟩, Nat.lt_of_lt_of_le h.lt k.1, h.ge⟩
theorem take_row {cs : List Value} {pre : List Int} (h : cs.take pre.length = pre.map VI) : pre.length ≤ cs.length ∧ ∀ (j : Nat) w, (pre.map VI)[j]? = some w → cs[j]? = some w := by
  have hl := congrArg List.length h
  rw [List.length_take, List.length_map] at hl
  refine ⟨by omega, fun j w hj => ?_⟩
  rw [← h, List.getElem?_take] at hj
  split at hj
  · exact hj
  · cases hj
theorem pile_row {q : Nat} {pre : List Int} {X : Heap} {cs : List Value} (h1 : X.get q = some (.cells cs 3 2)) (h2 : cs.take pre.length = pre.map VI) (hq : q < X.n) : Ints X (pile q pre.length) pre := by
  obtain ⟨h3, h4⟩ := take_row h2
  exact .inr (.inr ⟨q, 0, 0, cs, 3, 2, by simp, hq, h1, by decide, by simpa using h3, fun j w hj => by simpa using h4 j w hj⟩)
theorem MineC.row {b c l q : Nat} {pre : List Int} {X : Heap} (h : MineC b c l q pre X) : Ints X (pile q pre.length) pre := by
  obtain ⟨cs, h1, h2⟩ := h.p
  exact pile_row h1 h2 h.lt
theorem pile_push {K : Value → Heap → Prop} {B q : Nat} {H : Heap} {cs : List Value} {pre : List Int} {y : Int} (hg : H.get q = some (.cells cs 3 2)) (ht : cs.take pre.length = pre.map VI) (hq : q < H.n) (hB : B ≤ q) (hn : pre.length < 100)
    (hk : ∀ H', H'.get (H.n + 1) = some (.cells ((pre ++ [y]).map VI) 3 2) → (∀ p, p < H.n → p ≠ q → H'.get p = H.get p) → H'.n = H.n + 2 → K (pile (H.n + 1) (pre ++ [y]).length) H') :
    ∃ v H' lo, aappend Try.prog (H.new (.cells [VI y] 3 2)) #[29, 29] (pile q pre.length) (.slice (some ⟨H.n, 0, none⟩) 1 0) = some (v, H', lo) ∧ B ≤ lo ∧ K v H' := by
  obtain ⟨info, hi, hz, hs, hc, hsc, hby⟩ := oneBB_spec one3
  have hy : Row (H.new (.cells [VI y] 3 2)) (.slice (some ⟨H.n, 0, none⟩) 1 0) [VI y] := new_row rfl
  have hy' := hy.source
  have hg1 : (H.new (.cells [VI y] 3 2)).get q = some (.cells cs 3 2) := by rw [Heap.get_new_ne _ _ (by omega)]; exact hg
  have hl := (take_row ht).1
  have hmul : (pre.length + [VI y].length) * info.bytes ≤ 140737488355328 := Nat.le_trans (Nat.mul_le_mul (show pre.length + [VI y].length ≤ 1000 by simp; omega) (show info.bytes ≤ 1000 by omega)) (by decide)
  have hlen : (pre ++ [y]).length = pre.length + 1 := by simp
  have hmap : (pre ++ [y]).map VI = pre.map VI ++ [VI y] := by simp
  have hfin : K (pile (H.n + 1) (pre.length + 1)) (((H.new (.cells [VI y] 3 2)).set q .gone).new (.cells (pre.map VI ++ [VI y]) 3 2)) := by
    rw [← hlen, ← hmap]
    refine hk _ ?_ (fun p hp hpq => ?_) rfl
    · exact Heap.get_new_eq _ _
    · rw [Heap.get_new_ne _ _ (by show p ≠ H.n + 1; omega), Heap.get_set_ne _ _ (Ne.symm hpq), Heap.get_new_ne _ _ (by omega)]
  refine ⟨pile (H.n + 1) (pre.length + 1), _, q, ?_, hB, hfin⟩
  simp only [aappend, un22, hi, hz, hc, hs, hy', hg1]
  rw [if_neg (by simp), if_neg (by simp), if_neg (by simp), if_neg (by simp)]
  by_cases he : cs.length = pre.length
  · rw [if_pos ⟨trivial, by rw [he, Nat.mul_one], by show pre.length + 1 ≤ 9223372036854775807; omega, hmul⟩]
    have : cs = pre.map VI := by rw [← ht, List.take_of_length_le (by omega)]
    rw [this]; rfl
  · rw [if_neg (by intro h; exact he (by rw [h.2.1, Nat.mul_one])), if_pos ⟨trivial, by rw [Nat.mul_one]; omega, by show pre.length + 1 ≤ 9223372036854775807; omega, hmul⟩]
    rw [Nat.mul_one, ht]; rfl
/-- What a chain is made of when its orders are asked for. -/
structure LsOk (ls : List Lk) : Prop where
  n : ls.length ≤ 7
  lo : ∀ i, i < ls.length → 0 ≤ ls[i]!.lo ∧ ls[i]!.lo ≤ 100000
  hi : ∀ i, i < ls.length → 0 ≤ ls[i]!.hi ∧ ls[i]!.hi ≤ 100000
set_option maxHeartbeats 16000000 in
set_option maxRecDepth 100000 in
theorem grow_spec [Orc] {B b c l : Nat} {mk lo hi : Int} {sv : Value} {ls : List Lk} {L : List (List Int)} (J : List (List Int) → Nat → Heap → Prop) (K : Heap → Prop) (hBb : B ≤ b) (hcb : c < b) (hls : LsOk ls)
    (hJc : ∀ S q X, J S q X → X.get c = some (.cells (Chl mk lo hi sv) 26 1) ∧ RowS 4 X sv (ls.map Lkl))
    (hJs : ∀ S q q' X X', J S q X → X.n ≤ X'.n → (∀ p, p < X.n → p ≠ q → p ≠ b + 2 → X'.get p = X.get p) → (q' = q ∨ X.n ≤ q') → J S q' X')
    (hY : ∀ S o q X, (S ++ [o]) <+: L → J S q X → MineC b c l q o X → B ≤ X.n → b + 4 ≤ X.n → RoundB Try.prog B l [pile q o.length] X (fun r X' => ((r = .bool true ∧ J (S ++ [o]) q X' ∧ (∀ p, (b ≤ p ∧ p < b + 4 ∨ p = q) → X'.get p = X.get p)) ∨ (r = .bool false ∧ K X')) ∧ X.n ≤ X'.n)) :
    ∀ (r : Nat) (pre : List Int) (o d : Int) (S : List (List Int)) (q : Nat) (X : Heap), pre.length + r = ls.length → 0 ≤ d → d ≤ 100000 → (S ++ growL ls r pre o d) <+: L → J S q X → MineC b c l q pre X → B ≤ X.n → b + 4 ≤ X.n →
    CallB Try.prog B 123 [VI o, VI d, .pointer (some ⟨b + 2, 0, none⟩), .pointer (some ⟨c, 0, none⟩), .pointer (some ⟨b, 0, none⟩), .pointer (some ⟨b + 3, 0, none⟩)] X
      (fun v X' => ((v = .bool true ∧ ∃ q', J (S ++ growL ls r pre o d) q' X' ∧ MineC b c l q' pre X') ∨ (v = .bool false ∧ K X')) ∧ X.n ≤ X'.n) := by
  have hn7 := hls.n
  intro r
  induction r with
  | zero =>
    intro pre o d S q X hpr hd0 hd1 hL hJ hM hBX hbX
    obtain ⟨hc, hrow⟩ := hJc S q X hJ
    have hpl : pre.length = ls.length := by omega
    refine CV.enter callees false (Orc.hv rfl rfl) Try.func123 rfl (by kernel_rfl) (Nat.le_of_ble_eq_true rfl) hBX ?_ (Orc.hw rfl rfl)
    repeat' first
      | refine CO.cons rfl ?_
      | refine CO.nil ?_
      | refine CV.seq ?_
      | refine CV.region callees ?_
      | refine CV.cond ?_
      | (refine ⟨_, cell_load ag22 hM.o rfl, ?_⟩)
      | (refine ⟨_, sl_len, ?_⟩)
      | (refine ⟨_, fS foC2 (by decide), ?_⟩)
      | (refine ⟨_, cell_load agLs hc rfl, ?_⟩)
      | (refine ⟨_, ls_len hrow, ?_⟩)
      | (refine ⟨_, cell_load agY hM.y rfl, ?_⟩)
      | (refine ⟨fun _ => ?_, fun _ => ?_⟩ <;> first | (exfalso; omega) | skip)
      | fail
    refine (hY S pre q X hL hJ hM hBX hbX).mono ?_
    rintro v X1 ⟨⟨rfl, hJ1, hfr⟩ | ⟨rfl, hK⟩, l1⟩
    · repeat' first
        | refine CO.cons rfl ?_
        | refine CO.nil ?_
        | refine CV.ret ?_
        | fail
      obtain ⟨cs, hp1, hp2⟩ := hM.p
      exact ⟨rfl, .inl ⟨rfl, q, hJ1, ⟨(hfr b (by omega)).trans hM.y, (hfr (b + 2) (by omega)).trans hM.o, (hfr (b + 3) (by omega)).trans hM.f, ⟨cs, (hfr q (.inr rfl)).trans hp1, hp2⟩, Nat.lt_of_lt_of_le hM.lt l1, hM.ge⟩⟩, l1⟩
    · repeat' first
        | refine CO.cons rfl ?_
        | refine CO.nil ?_
        | refine CV.ret ?_
        | fail
      exact ⟨rfl, .inr ⟨rfl, hK⟩, l1⟩
  | succ r ih =>
    intro pre o d S q X hpr hd0 hd1 hL hJ hM hBX hbX
    obtain ⟨hc, hrow⟩ := hJc S q X hJ
    have hfl : growL ls (r + 1) pre o d = growP ls r pre o d ls.length := rfl
    rw [hfl] at hL ⊢
    have hpl : pre.length < ls.length := by omega
    refine CV.enter callees false (Orc.hv rfl rfl) Try.func123 rfl (by kernel_rfl) (Nat.le_of_ble_eq_true rfl) hBX ?_ (Orc.hw rfl rfl)
    repeat' first
      | refine CO.cons rfl ?_
      | refine CO.nil ?_
      | refine CV.seq ?_
      | refine CV.region callees ?_
      | refine CV.cond ?_
      | refine CV.block ?_
      | refine CV.skip ?_
      | (refine ⟨_, cell_load ag22 hM.o rfl, ?_⟩)
      | (refine ⟨_, sl_len, ?_⟩)
      | (refine ⟨_, fS foC2 (by decide), ?_⟩)
      | (refine ⟨_, cell_load agLs hc rfl, ?_⟩)
      | (refine ⟨_, ls_len hrow, ?_⟩)
      | (refine ⟨fun _ => ?_, fun _ => ?_⟩ <;> first | (exfalso; omega) | skip)
      | fail
    refine CV.loopc ?_
    refine WCv.rounds callees false (α := Nat × Nat) (fun (i, q) => [(0, VI o), (1, VI d), (2, .pointer (some ⟨b + 2, 0, none⟩)), (3, .pointer (some ⟨c, 0, none⟩)), (4, .pointer (some ⟨b, 0, none⟩)), (5, .pointer (some ⟨b + 3, 0, none⟩)), (22, sv), (23, VI ls.length), (24, VI i)]) (fun (i, q) Hz => i ≤ ls.length ∧ J (S ++ growP ls r pre o d i) q Hz ∧ MineC b c l q pre Hz ∧ X.n ≤ Hz.n) (fun (i, q) => ls.length - i) (0, q) (by repeat' first | exact trivial | refine ⟨rfl, ?_⟩ | refine ⟨slot_int (by (try simp only [Int.toNat_natCast]); omega), ?_⟩) ?_ ?_
    · exact ⟨by omega, by rw [show growP ls r pre o d 0 = [] from rfl, List.append_nil]; exact hJ, hM, Nat.le_refl _⟩
    clear hJ hM hc hrow q
    rintro ⟨i, q⟩ Hx ⟨hi, hJ, hM, lx⟩ hBx
    by_cases hi2 : i < ls.length
    · obtain ⟨hc, hrow⟩ := hJc _ q Hx hJ
      have hli := hls.lo i hi2
      have hhi := hls.hi i hi2
      have hbg := hM.ge
      have hltx := hM.lt
      repeat' first
        | refine CO.cons rfl ?_
        | refine CO.nil ?_
        | refine CV.seq ?_
        | refine CV.region callees ?_
        | refine CV.cond ?_
        | refine CV.block ?_
        | refine CV.skip ?_
        | (refine ⟨_, ls_addr hrow (by omega) (by omega), ?_⟩)
        | (refine ⟨_, ls_load hrow hi2, ?_⟩)
        | (refine ⟨_, _, alLk, ?_⟩)
        | (refine ⟨fun _ => ?_, fun _ => ?_⟩ <;> first | (exfalso; omega) | skip)
        | fail
      generalize hs4 : Heap.new Hx _ = H4
      have hg4 := new_get hs4
      have k4 := new_keep hs4
      have n4 := new_n hs4
      obtain ⟨b4, hbn4⟩ : ∃ b, Heap.n Hx = b := ⟨_, rfl⟩
      rw [hbn4] at hg4 n4 ⊢
      repeat' first
        | fail
      refine ⟨_, _, stLk hg4, by omega, ?_⟩
      generalize hs5 : Heap.set H4 b4 _ = H5
      have hg5 : H5.get b4 = some (.cells (Lkl ls[i]!) 28 1) := set_get hs5
      have n5 := set_n hs5
      have o5 := set_old hs5
      have k5 : Keep Hx H5 := keep_put k4 (by omega) o5 n5
      have l5 := k5.1
      have hM5 := hM.keep k5 (by omega)
      have hJ5 : J (S ++ growP ls r pre o d i) q H5 := hJs _ q q Hx H5 hJ l5 (fun p hp _ _ => k5.2 p hp) (.inl rfl)
      have hsn : growP ls r pre o d (i + 1) = growP ls r pre o d i ++ (if takesB ls pre o d i then growL ls r (pre ++ [(i : Int)]) ls[i]!.t (soon d ls[i]!) else []) := growP_succ
      obtain ⟨x, hx⟩ : ∃ x, ls[i]! = x := ⟨_, rfl⟩
      rw [hx] at hsn hg5 hli hhi
      have htk : takesB ls pre o d i = (decide (x.f = o) && (decide (soon d x ≤ x.hi) && !decide ((i : Int) ∈ pre))) := by unfold takesB; rw [hx]
      have hmx : max (d + 1) x.lo = soon d x := rfl
      by_cases c1 : x.f = o
      · by_cases c2 : soon d x ≤ x.hi
        · repeat' first
            | refine CO.cons rfl ?_
            | refine CO.nil ?_
            | refine CV.seq ?_
            | refine CV.region callees ?_
            | refine CO.consG rfl ?_
            | refine ⟨(⟨by omega, by omega⟩ : inI64 _), ?_⟩
            | refine ⟨_, fun tm ha => step1_max rfl (ev_tmp ha rfl) (ev_tmp ha rfl), ?_⟩
            | (refine ⟨_, fS foL0 (by decide), ?_⟩)
            | (refine ⟨_, fS foL2 (by decide), ?_⟩)
            | (refine ⟨_, fS foS1 (by decide), ?_⟩)
            | (refine ⟨_, cell_load ag3 hg5 rfl, ?_⟩)
            | (refine ⟨_, cell_load ag22 hM5.o rfl, ?_⟩)
            | (refine ⟨fun _ => ?_, fun _ => ?_⟩ <;> first | (exfalso; omega) | skip)
            | fail
          refine (contains_spec (by omega) hM5.row (by omega)).mono ?_
          by_cases hm : (i : Int) ∈ pre
          · rw [decide_eq_true hm]
            rintro v H6 ⟨rfl, rfl⟩
            repeat' first
              | refine CO.cons rfl ?_
              | refine CO.nil ?_
              | refine CV.region callees ?_
              | refine CV.cond ?_
              | refine CV.exit ?_
              | refine ⟨(⟨by omega, by omega⟩ : inI64 _), ?_⟩
              | fail
            refine ⟨(i + 1, q), (by repeat' first | exact trivial | refine ⟨rfl, ?_⟩ | refine ⟨slot_int (by (try simp only [Int.toNat_natCast]); omega), ?_⟩), (by (try dsimp only); omega), ?_⟩
            refine ⟨by omega, ?_, hM5, by omega⟩
            rw [hsn, htk, decide_eq_true hm]
            simpa using hJ5
          · rw [decide_eq_false hm]
            rintro v H6 ⟨rfl, rfl⟩
            obtain ⟨cs, hp1, hp2⟩ := hM5.p
            have hlt5 := hM5.lt
            repeat' first
              | refine CO.cons rfl ?_
              | refine CO.nil ?_
              | refine CV.seq ?_
              | refine CV.region callees ?_
              | refine CV.cond ?_
              | refine CV.skip ?_
              | (refine ⟨_, cell_load ag22 hM5.o rfl, ?_⟩)
              | (refine ⟨_, _, build_one un22 one3 rfl, ?_⟩)
              | fail
            refine pile_push (B := B) (y := (i : Int)) hp1 hp2 hlt5 (by omega) (by omega) ?_
            intro H7 hp7 hk7 n7
            have ho7 := (hk7 (b + 2) (by omega) (by omega)).trans hM5.o
            have hg7 := (hk7 b4 (by omega) (by omega)).trans hg5
            repeat' first
              | refine CO.cons rfl ?_
              | fail
            refine ⟨_, _, var_store sz26 ho7 rfl, by omega, ?_⟩
            generalize hs8 : Heap.set H7 (b + 2) _ = H8
            have hg8 : H8.get (b + 2) = some (.cells ([pile (H6.n + 1) (pre ++ [(i : Int)]).length]) 29 1) := set_get hs8
            have n8 := set_n hs8
            have o8 := set_old hs8
            have hM8 : MineC b c l (H6.n + 1) (pre ++ [(i : Int)]) H8 := ⟨(o8 b (by omega)).trans ((hk7 b (by omega) (by omega)).trans hM5.y), hg8, (o8 (b + 3) (by omega)).trans ((hk7 (b + 3) (by omega) (by omega)).trans hM5.f), ⟨_, (o8 _ (by omega)).trans hp7, List.take_of_length_le (by rw [List.length_map]; exact Nat.le_refl _)⟩, by omega, .inr (by omega)⟩
            have hJ8 : J (S ++ growP ls r pre o d i) (H6.n + 1) H8 := hJs _ q _ H6 H8 hJ5 (by omega) (fun p hp h1 h2 => (o8 p h2).trans (hk7 p hp h1)) (.inr (by omega))
            have hg8' := (o8 b4 (by omega)).trans hg7
            have hsub : (S ++ growP ls r pre o d i) ++ growL ls r (pre ++ [(i : Int)]) x.t (soon d x) <+: L := by
              refine List.IsPrefix.trans ?_ hL
              rw [List.append_assoc]
              have := growP_pre (ls := ls) (r := r) (pre := pre) (o := o) (d := d) (e := ls.length - (i + 1)) (k := i + 1)
              rw [hsn, htk, c1, decide_eq_true c2, decide_eq_false hm, show i + 1 + (ls.length - (i + 1)) = ls.length by omega] at this
              simp only [decide_true, Bool.not_false, Bool.and_self, if_true] at this
              exact List.prefix_append_right_inj S |>.2 this
            have hih := ih (pre ++ [(i : Int)]) x.t (soon d x) (S ++ growP ls r pre o d i) (H6.n + 1) H8 (by rw [List.length_append, List.length_singleton]; omega) (by unfold soon; omega) (by omega) hsub hJ8 hM8 (by omega) (by omega)
            rw [hmx]
            repeat' first
              | refine CO.cons rfl ?_
              | refine CO.nil ?_
              | refine CV.seq ?_
              | refine CV.region callees ?_
              | (refine ⟨_, cell_load agG hM8.f rfl, ?_⟩)
              | (refine ⟨_, fS foL1 (by decide), ?_⟩)
              | (refine ⟨_, cell_load ag3 hg8' rfl, ?_⟩)
              | fail
            refine hih.mono ?_
            rintro v X2 ⟨⟨rfl, q2, hJ2, hM2⟩ | ⟨rfl, hK⟩, l2⟩
            · have hlen2 : (pre ++ [(i : Int)]).length = pre.length + 1 := by simp
              repeat' first
                | refine CO.cons rfl ?_
                | refine CO.nil ?_
                | refine CV.region callees ?_
                | refine CV.cond ?_
                | refine CV.skip ?_
                | refine ⟨(⟨by omega, by omega⟩ : inI64 _), ?_⟩
                | (refine ⟨_, cell_load ag22 hM2.o rfl, ?_⟩)
                | (refine ⟨_, sl_len, ?_⟩)
                | (refine ⟨_, sl_cut (by omega) (by omega), ?_⟩)
                | fail
              refine ⟨_, _, var_store sz26 hM2.o rfl, by omega, ?_⟩
              generalize hs9 : Heap.set X2 (b + 2) _ = X3
              have hg9 : X3.get (b + 2) = some (.cells [pile q2 (((pre ++ [(i : Int)]).length : Int) - 1).toNat] 29 1) := set_get hs9
              have n9 := set_n hs9
              have o9 := set_old hs9
              rw [show (((pre ++ [(i : Int)]).length : Int) - 1).toNat = pre.length by omega] at hg9
              have hge2 := hM2.ge
              repeat' first
                | refine CO.cons rfl ?_
                | refine CO.nil ?_
                | refine CV.region callees ?_
                | refine ⟨(⟨by omega, by omega⟩ : inI64 _), ?_⟩
                | fail
              refine ⟨(i + 1, q2), (by repeat' first | exact trivial | refine ⟨rfl, ?_⟩ | refine ⟨slot_int (by (try simp only [Int.toNat_natCast]); omega), ?_⟩), (by (try dsimp only); omega), ?_⟩
              obtain ⟨cs2, hp3, hp4⟩ := hM2.p
              refine ⟨by omega, ?_, ⟨(o9 b (by omega)).trans hM2.y, hg9, (o9 (b + 3) (by omega)).trans hM2.f, ⟨cs2, (o9 q2 (by omega)).trans hp3, ?_⟩, by have := hM2.lt; omega, hge2⟩, by omega⟩
              · have h5 := hJs _ q2 q2 X2 X3 hJ2 (by omega) (fun p _ _ h => o9 p h) (.inl rfl)
                rw [hsn, htk, c1, decide_eq_true c2, decide_eq_false hm]
                simp only [decide_true, Bool.not_false, Bool.and_self, if_true]
                rw [← List.append_assoc]
                exact h5
              · have := congrArg (List.take pre.length) hp4
                rw [List.take_take, Nat.min_eq_left (by omega), ← List.map_take, List.take_append_of_le_length (Nat.le_refl _), List.take_length] at this
                exact this
            · repeat' first
                | refine CO.cons rfl ?_
                | refine CO.nil ?_
                | refine CV.seq ?_
                | refine CV.region callees ?_
                | refine CV.cond ?_
                | refine CV.ret ?_
                | fail
              exact ⟨rfl, .inr ⟨rfl, hK⟩, by omega⟩
        · repeat' first
            | refine CO.cons rfl ?_
            | refine CO.nil ?_
            | refine CV.seq ?_
            | refine CV.region callees ?_
            | refine CV.cond ?_
            | refine CV.exit ?_
            | refine CO.consG rfl ?_
            | refine ⟨(⟨by omega, by omega⟩ : inI64 _), ?_⟩
            | refine ⟨_, fun tm ha => step1_max rfl (ev_tmp ha rfl) (ev_tmp ha rfl), ?_⟩
            | (refine ⟨_, fS foL0 (by decide), ?_⟩)
            | (refine ⟨_, fS foL2 (by decide), ?_⟩)
            | (refine ⟨_, fS foS1 (by decide), ?_⟩)
            | (refine ⟨_, cell_load ag3 hg5 rfl, ?_⟩)
            | (refine ⟨fun _ => ?_, fun _ => ?_⟩ <;> first | (exfalso; omega) | skip)
            | fail
          refine ⟨(i + 1, q), (by repeat' first | exact trivial | refine ⟨rfl, ?_⟩ | refine ⟨slot_int (by (try simp only [Int.toNat_natCast]); omega), ?_⟩), (by (try dsimp only); omega), ?_⟩
          refine ⟨by omega, ?_, hM5, by omega⟩
          rw [hsn, htk, decide_eq_false c2]
          simpa using hJ5
      · repeat' first
          | refine CO.cons rfl ?_
          | refine CO.nil ?_
          | refine CV.seq ?_
          | refine CV.region callees ?_
          | refine CV.cond ?_
          | refine CV.exit ?_
          | refine CO.consG rfl ?_
          | refine ⟨(⟨by omega, by omega⟩ : inI64 _), ?_⟩
          | refine ⟨_, fun tm ha => step1_max rfl (ev_tmp ha rfl) (ev_tmp ha rfl), ?_⟩
          | (refine ⟨_, fS foL0 (by decide), ?_⟩)
          | (refine ⟨_, fS foL2 (by decide), ?_⟩)
          | (refine ⟨_, cell_load ag3 hg5 rfl, ?_⟩)
          | (refine ⟨fun _ => ?_, fun _ => ?_⟩ <;> first | (exfalso; omega) | skip)
          | fail
        refine ⟨(i + 1, q), (by repeat' first | exact trivial | refine ⟨rfl, ?_⟩ | refine ⟨slot_int (by (try simp only [Int.toNat_natCast]); omega), ?_⟩), (by (try dsimp only); omega), ?_⟩
        refine ⟨by omega, ?_, hM5, by omega⟩
        rw [hsn, htk, decide_eq_false c1]
        simpa using hJ5
    obtain rfl : i = ls.length := by omega
    repeat' first
      | refine CO.cons rfl ?_
      | refine CO.nil ?_
      | refine CV.seq ?_
      | refine CV.region callees ?_
      | refine CV.cond ?_
      | refine CV.exit ?_
      | refine CV.ret ?_
      | (refine ⟨fun _ => ?_, fun _ => ?_⟩ <;> first | (exfalso; omega) | skip)
      | fail
    exact ⟨rfl, .inl ⟨rfl, q, hJ, hM⟩, lx⟩
end Go.Proofs.Ytijimplcjaeneaa



/- Orders as an iterator; whether there is one. -/
namespace Go.Proofs.Ytijimplcjaeneaa
open Go.AI
theorem make0 {H : Heap} {n : Nat} (h : n ≤ 7) : amakeSlice Try.prog H 29 (VI 0) (VI n) = some (pile H.n 0, H.new (.cells [] 3 2), H.n) := by
  obtain ⟨info, hi, hz, hs, hc, hsc, hby⟩ := oneBB_spec one3
  have hmul : info.bytes * n ≤ 281474976710656 := Nat.le_trans (Nat.mul_le_mul (show info.bytes ≤ 1000 by omega) (show n ≤ 1000 by omega)) (by decide)
  have hmul' : (info.bytes : Int) * (n : Int) ≤ 281474976710656 := by rw [← Int.natCast_mul]; omega
  have hall : (Value.int IntKind.i64 0).cells.toList.all scalar = true := rfl
  simp only [amakeSlice, un22, hi, hz]
  rw [if_pos ⟨Int.le_refl _, by omega, by omega, hmul', by omega, hc ▸ hs.symm, hall⟩, hs]
  rfl
def ordersL (mk lo : Int) (ls : List Lk) : List (List Int) := growL ls ls.length [] mk lo
set_option maxHeartbeats 16000000 in
set_option maxRecDepth 100000 in
theorem orders1_spec [Orc] {B c l : Nat} {H : Heap} {mk lo hi : Int} {sv : Value} {ls : List Lk} (J : List (List Int) → Nat → Heap → Prop) (K : Heap → Prop) (hB : B ≤ H.n) (hcb : c < H.n) (hls : LsOk ls) (h0 : 0 ≤ lo) (h1 : lo ≤ 100000)
    (hC : H.get c = some (.cells (Chl mk lo hi sv) 26 1)) (hrow : RowS 4 H sv (ls.map Lkl))
    (hJ0 : ∀ X, Keep H X → H.n + 4 ≤ X.n → J [] (H.n + 1) X)
    (hJc : ∀ S q X, J S q X → X.get c = some (.cells (Chl mk lo hi sv) 26 1) ∧ RowS 4 X sv (ls.map Lkl))
    (hJs : ∀ S q q' X X', J S q X → X.n ≤ X'.n → (∀ p, p < X.n → p ≠ q → p ≠ H.n + 2 → X'.get p = X.get p) → (q' = q ∨ X.n ≤ q') → J S q' X')
    (hY : ∀ S o q X, (S ++ [o]) <+: ordersL mk lo ls → J S q X → MineC H.n c l q o X → B ≤ X.n → H.n + 4 ≤ X.n → RoundB Try.prog B l [pile q o.length] X (fun r X' => ((r = .bool true ∧ J (S ++ [o]) q X' ∧ (∀ p, (H.n ≤ p ∧ p < H.n + 4 ∨ p = q) → X'.get p = X.get p)) ∨ (r = .bool false ∧ K X')) ∧ X.n ≤ X'.n)) :
    CallB Try.prog B 122 [.func (.yield l) #[] #[], .pointer (some ⟨c, 0, none⟩)] H (fun _ X' => ((∃ q, J (ordersL mk lo ls) q X') ∨ K X') ∧ H.n ≤ X'.n) := by
  have hn7 := hls.n
  refine CV.enter callees false (Orc.hv rfl rfl) Try.func122 rfl (by kernel_rfl) (Nat.le_of_ble_eq_true rfl) hB ?_ (Orc.hw rfl rfl)
  repeat' first
    | refine CO.cons rfl ?_
    | refine CV.seq ?_
    | refine CV.region callees ?_
    | fail
  refine ⟨(by rfl), ?_⟩
  generalize hs0' : anew H _ _ _ = H0
  have hs0 : H.new (.cells [.func (.yield l) #[] #[]] yT 1) = H0 := hs0'
  have hg0 := new_get hs0
  have k0 := new_keep hs0
  have n0 := new_n hs0
  have hc0 := (k0.2 c (by omega)).trans hC
  have hr0 := hrow.keep k0
  repeat' first
    | refine CO.cons rfl ?_
    | refine CO.nil ?_
    | refine CV.seq ?_
    | refine CV.region callees ?_
    | (refine ⟨_, fS foC2 (by decide), ?_⟩)
    | (refine ⟨_, cell_load agLs hc0 rfl, ?_⟩)
    | (refine ⟨_, ls_len hr0, ?_⟩)
    | (refine ⟨_, _, make0 hn7, ?_⟩)
    | fail
  generalize hs1 : Heap.new H0 _ = H1
  have hg1 := new_get hs1
  have k1 := new_keep hs1
  have n1 := new_n hs1
  rw [show H0.n = H.n + 1 by omega] at hg1 ⊢
  repeat' first
    | refine CO.cons rfl ?_
    | (refine ⟨_, _, al26, ?_⟩)
    | fail
  generalize hs2 : Heap.new H1 _ = H2
  have hg2 := new_get hs2
  have k2 := new_keep hs2
  have n2 := new_n hs2
  rw [show H1.n = H.n + 2 by omega] at hg2 ⊢
  repeat' first
    | fail
  refine ⟨_, _, var_store sz26 hg2 rfl, by omega, ?_⟩
  generalize hs3 : Heap.set H2 (H.n + 2) _ = H3
  have hg3 := set_get hs3
  have n3 := set_n hs3
  have o3 := set_old hs3
  repeat' first
    | refine CO.cons rfl ?_
    | refine CO.nil ?_
    | refine CV.seq ?_
    | refine CV.region callees ?_
    | (refine ⟨_, _, alG, ?_⟩)
    | fail
  generalize hs4 : Heap.new H3 _ = H4
  have hg4 := new_get hs4
  have k4 := new_keep hs4
  have n4 := new_n hs4
  rw [show H3.n = H.n + 3 by omega] at hg4 ⊢
  repeat' first
    | refine CO.cons rfl ?_
    | (refine ⟨(rfl : List.all _ cellLike = true), ?_⟩)
    | fail
  refine ⟨_, _, var_store szG hg4 rfl, by omega, ?_⟩
  generalize hs5 : Heap.set H4 (H.n + 3) _ = H5
  have hg5 : H5.get (H.n + 3) = some (.cells [growV c H.n] gT 1) := set_get hs5
  have n5 := set_n hs5
  have o5 := set_old hs5
  have hM : MineC H.n c l (H.n + 1) [] H5 := ⟨(o5 _ (by omega)).trans ((k4.2 _ (by omega)).trans ((o3 _ (by omega)).trans ((k2.2 _ (by omega)).trans ((k1.2 _ (by omega)).trans hg0)))), (o5 _ (by omega)).trans ((k4.2 _ (by omega)).trans hg3), hg5, ⟨[], (o5 _ (by omega)).trans ((k4.2 _ (by omega)).trans ((o3 _ (by omega)).trans ((k2.2 _ (by omega)).trans hg1))), rfl⟩, by omega, .inl rfl⟩
  have k05 : Keep H H5 := ⟨by omega, fun q hq => (o5 q (by omega)).trans ((k4.2 q (by omega)).trans ((o3 q (by omega)).trans ((k2.2 q (by omega)).trans ((k1.2 q (by omega)).trans (k0.2 q hq)))))⟩
  have hc5 := (k05.2 c hcb).trans hC
  repeat' first
    | refine CO.cons rfl ?_
    | refine CO.nil ?_
    | refine CV.region callees ?_
    | (refine ⟨_, cell_load agG hg5 rfl, ?_⟩)
    | (refine ⟨_, fS foC0 (by decide), ?_⟩)
    | (refine ⟨_, fS foC1 (by decide), ?_⟩)
    | (refine ⟨_, cell_load ag3 hc5 rfl, ?_⟩)
    | fail
  have hf := grow_spec (B := B) (c := c) (b := H.n) (l := l) (L := ordersL mk lo ls) J K hB hcb hls hJc hJs hY ls.length [] mk lo [] (H.n + 1) H5 (by simp) h0 h1 (by rw [List.nil_append]; exact List.prefix_refl _) (hJ0 H5 k05 (by omega)) hM (by omega) (by omega)
  refine hf.mono ?_
  rintro v X2 ⟨⟨rfl, q, hJ2, _⟩ | ⟨rfl, hK⟩, l2⟩
  · repeat' first
      | refine CO.nil ?_
      | fail
    exact ⟨rfl, .inl ⟨q, by rw [List.nil_append] at hJ2; exact hJ2⟩, by omega⟩
  · repeat' first
      | refine CO.nil ?_
      | fail
    exact ⟨rfl, .inr hK, by omega⟩
set_option maxRecDepth 100000 in
theorem orders_spec [Orc] {B : Nat} {H : Heap} {mk lo hi : Int} {sv : Value} (hB : B ≤ H.n) (hs : sv.cells.toList = [sv]) :
    CallB Try.prog B 77 [Chv mk lo hi sv] H (fun v H' => (∃ c, v = .func (.func 122) #[] #[.pointer (some ⟨c, 0, none⟩)] ∧ H'.get c = some (.cells (Chl mk lo hi sv) 26 1) ∧ H.n ≤ c ∧ c < H'.n) ∧ Keep H H') := by
  refine CV.enter callees false (Orc.hv rfl rfl) Try.func77 rfl (by kernel_rfl) (Nat.le_of_ble_eq_true rfl) hB ?_ (Orc.hw rfl rfl)
  repeat' first
    | refine CO.cons rfl ?_
    | refine CV.seq ?_
    | refine CV.region callees ?_
    | fail
  refine ⟨(by simp only [notTuple]), ?_⟩
  rw [boxCh hs]
  generalize hs0 : Heap.new H _ = H0
  have hg0 := new_get hs0
  have k0 := new_keep hs0
  have n0 := new_n hs0
  obtain ⟨b0, hbn0⟩ : ∃ b, Heap.n H = b := ⟨_, rfl⟩
  rw [hbn0] at hg0 n0 ⊢
  repeat' first
    | refine CO.cons rfl ?_
    | refine CO.nil ?_
    | refine CV.seq ?_
    | refine CV.region callees ?_
    | refine CV.ret ?_
    | (refine ⟨(rfl : List.all _ cellLike = true), ?_⟩)
    | fail
  exact ⟨rfl, ⟨b0, rfl, hg0, by omega, by omega⟩, k0⟩
theorem zc4 : zeroCellsW Try.prog 4 = some [.bool false] := by kernel_rfl
theorem al4 {H : Heap} : sAlloc Try.prog H 4 = some (.pointer (some ⟨H.n, 0, none⟩), H.new (.cells [.bool false] 4 1), H.n) := alloc_ofW zc4
theorem sz4 : sizeB Try.prog 4 = some 1 := by kernel_rfl
theorem ag4 : isAggB Try.prog 4 = some false := by kernel_rfl
set_option maxHeartbeats 16000000 in
set_option maxRecDepth 100000 in
theorem hasStory_spec [Orc] {B : Nat} {H : Heap} {mk lo hi : Int} {sv : Value} {ls : List Lk} (hB : B ≤ H.n) (hr : RowS 4 H sv (ls.map Lkl)) (hls : LsOk ls) (h0 : 0 ≤ lo) (h1 : lo ≤ 100000) :
    CallB Try.prog B 86 [Chv mk lo hi sv] H (fun v H' => v = .bool (!(ordersL mk lo ls).isEmpty) ∧ Keep H H') := by
  refine CV.enter callees false (Orc.hv rfl rfl) Try.func86 rfl (by kernel_rfl) (Nat.le_of_ble_eq_true rfl) hB ?_ (Orc.hw rfl rfl)
  repeat' first
    | refine CO.cons rfl ?_
    | refine CV.seq ?_
    | refine CV.region callees ?_
    | fail
  refine ⟨(by simp only [notTuple]), ?_⟩
  rw [boxCh hr.cells.1]
  generalize hs0 : Heap.new H _ = H0
  have hg0 := new_get hs0
  have k0 := new_keep hs0
  have n0 := new_n hs0
  obtain ⟨b0, hbn0⟩ : ∃ b, Heap.n H = b := ⟨_, rfl⟩
  rw [hbn0] at hg0 n0 ⊢
  repeat' first
    | refine CO.cons rfl ?_
    | refine CO.nil ?_
    | refine CV.seq ?_
    | refine CV.region callees ?_
    | (refine ⟨_, _, al4, ?_⟩)
    | fail
  generalize hs1 : Heap.new H0 _ = H1
  have hg1 := new_get hs1
  have k1 := new_keep hs1
  have n1 := new_n hs1
  obtain ⟨b1, hbn1⟩ : ∃ b, Heap.n H0 = b := ⟨_, rfl⟩
  rw [hbn1] at hg1 n1 ⊢
  have hc1 := (k1.2 b0 (by omega)).trans hg0
  repeat' first
    | refine CO.cons rfl ?_
    | (refine ⟨_, ldCh hc1, ?_⟩)
    | fail
  refine (orders_spec (by omega) hr.cells.1).mono ?_
  rintro v H4 ⟨⟨c, rfl, hcc, hc2, hc3⟩, k4⟩
  have l4 := k4.1
  have hv4 := (k4.2 b1 (by omega)).trans hg1
  repeat' first
    | refine CO.nil ?_
    | refine CV.block ?_
    | fail
  refine CV.rangeFunc callees ?_
  refine fun tm ha => ?_
  generalize hs5 : Heap.new H4 _ = H5
  have hg5 := new_get hs5
  have k5 := new_keep hs5
  have n5 := new_n hs5
  obtain ⟨l, hl⟩ : ∃ l, H4.n = l := ⟨_, rfl⟩
  rw [hl] at hg5 n5 ⊢
  have k05 : Keep H H5 := ((k0.trans k1).trans k4).trans k5
  have l05 := k05.1
  have hcc5 := (k5.2 c (by omega)).trans hcc
  have hv5 := (k5.2 b1 (by omega)).trans hv4
  refine (orders1_spec (B := B) (l := l) (c := c) (mk := mk) (lo := lo) (hi := hi) (sv := sv) (ls := ls)
    (fun S q X => S = [] ∧ X.get l = H5.get l ∧ X.get b1 = some (.cells [.bool false] 4 1) ∧ X.get c = H5.get c ∧ Keep H X ∧ H5.n ≤ X.n ∧ H5.n ≤ q)
    (fun X => (∃ tm ps x y, X.get l = some (.loop .done (some .ret) tm ps x y)) ∧ X.get b1 = some (.cells [.bool true] 4 1) ∧ Keep H X ∧ ordersL mk lo ls ≠ [])
    (by omega) (by omega) hls h0 h1 hcc5 (hr.keep k05) ?_ ?_ ?_ ?_).mono ?_
  · intro X kk h2
    exact ⟨rfl, kk.2 l (by omega), (kk.2 b1 (by omega)).trans hv5, kk.2 c (by omega), k05.trans kk, kk.1, by omega⟩
  · rintro S q X ⟨q1, q2, q3, q4, q5, q6, q7⟩
    exact ⟨q4.trans hcc5, hr.keep q5⟩
  · rintro S q q' X X' ⟨q1, q2, q3, q4, q5, q6, q7⟩ h2 h3 h4
    exact ⟨q1, (h3 l (by omega) (by omega) (by omega)).trans q2, (h3 b1 (by omega) (by omega) (by omega)).trans q3, (h3 c (by omega) (by omega) (by omega)).trans q4, ⟨by omega, fun p hp => (h3 p (by omega) (by omega) (by omega)).trans (q5.2 p hp)⟩, by omega, by omega⟩
  · rintro S o q X hpre ⟨q1, q2, q3, q4, q5, q6, q7⟩ hM hBX hX
    refine RoundB.enter callees false (q2.trans hg5) ha rfl hBX (by omega) ?_
    repeat' first
      | refine CV.skip ?_
      | fail
    refine ⟨_, _, _, _, _, q2.trans hg5, ?_⟩
    generalize hs6 : X.set l _ = X1
    have hg6 := set_get hs6
    have n6 := set_n hs6
    have o6 := set_old hs6
    have hv6 := (o6 b1 (by omega)).trans q3
    repeat' first
      | refine CO.cons rfl ?_
      | refine CV.seq ?_
      | refine CV.region callees ?_
      | refine CV.block ?_
      | fail
    refine ⟨_, _, var_store sz4 hv6 rfl, by omega, ?_⟩
    generalize hs7 : Heap.set X1 b1 _ = X2
    have hg7 := set_get hs7
    have n7 := set_n hs7
    have o7 := set_old hs7
    repeat' first
      | refine CO.nil ?_
      | refine CV.ret ?_
      | fail
    have hne : ordersL mk lo ls ≠ [] := fun h => by rw [h, List.prefix_nil] at hpre; simp at hpre
    refine ⟨_, _, _, _, _, _, _, (o7 l (by omega)).trans hg6, rfl, .inr ⟨rfl, ⟨_, _, _, _, Heap.get_set_eq _ _ _⟩, ?_, ?_, hne⟩, ?_⟩
    · rw [Heap.get_set_ne _ _ (by omega)]; exact hg7
    · exact ⟨by show H.n ≤ X2.n; omega, fun p hp => by rw [Heap.get_set_ne _ _ (by omega)]; exact (o7 p (by omega)).trans ((o6 p (by omega)).trans (q5.2 p hp))⟩
    · show X.n ≤ X2.n; omega
  rintro _ HZ ⟨⟨q, q1, q2, q3, q4, q5, q6, q7⟩ | ⟨⟨tm', ps', x', y', q2⟩, q3, q5, q6⟩, lZ⟩
  · refine ⟨_, _, _, _, _, _, _, q2.trans hg5, rfl, rfl, ?_⟩
    generalize hsZ : HZ.set l _ = HY
    have nZ := set_n hsZ
    have oZ := set_old hsZ
    have hvZ := (oZ b1 (by omega)).trans q3
    repeat' first
      | refine CO.cons rfl ?_
      | refine CV.seq ?_
      | refine CV.region callees ?_
      | fail
    refine ⟨_, _, var_store sz4 hvZ rfl, by omega, ?_⟩
    generalize hs9 : Heap.set HY b1 _ = H9
    have hg9 : H9.get b1 = some (.cells ([.bool false]) 4 1) := set_get hs9
    have n9 := set_n hs9
    have o9 := set_old hs9
    repeat' first
      | refine CO.nil ?_
      | refine CV.ret ?_
      | (refine ⟨_, cell_load ag4 hg9 rfl, ?_⟩)
      | fail
    exact ⟨rfl, by rw [q1]; rfl, ⟨by have := q5.1; omega, fun p hp => (o9 p (by omega)).trans ((oZ p (by omega)).trans (q5.2 p hp))⟩⟩
  · refine ⟨_, _, _, _, _, _, _, q2, rfl, rfl, ?_⟩
    generalize hsZ : HZ.set l _ = HY
    have nZ := set_n hsZ
    have oZ := set_old hsZ
    have hvZ := (oZ b1 (by omega)).trans q3
    repeat' first
      | (refine ⟨_, cell_load ag4 hvZ rfl, ?_⟩)
      | fail
    refine ⟨rfl, ?_, ⟨by have := q5.1; omega, fun p hp => (oZ p (by omega)).trans (q5.2 p hp)⟩⟩
    cases hL : ordersL mk lo ls with
    | nil => exact absurd hL q6
    | cons x t => rfl
end Go.Proofs.Ytijimplcjaeneaa



/- Chains that may be. -/
namespace Go.Proofs.Ytijimplcjaeneaa
open Go.AI
/-- The first error of links. -/
def linksE : List Lk → Int
  | [] => 0
  | l :: t => if linkE l = 0 then linksE t else linkE l
theorem linksE_all : ∀ {ls : List Lk}, linksE ls = 0 → ∀ l ∈ ls, linkE l = 0
  | l :: t, h, x, hx => by
    simp only [linksE] at h
    by_cases e : linkE l = 0
    · rw [if_pos e] at h
      rcases List.mem_cons.1 hx with rfl | hx
      · exact e
      · exact linksE_all h x hx
    · rw [if_neg e] at h; exact absurd h e
/-- The error of a chain. -/
def chkC (mk lo hi : Int) (ls : List Lk) : Int :=
  bif inB mk 0 19 then (if spanE lo hi 0 100000 = 0 then (if 7 < ls.length then 8 else (if linksE ls = 0 then (bif (ordersL mk lo ls).isEmpty then 12 else 0) else linksE ls)) else spanE lo hi 0 100000) else 2
theorem spanE_bd {lo hi a b : Int} (h : spanE lo hi a b = 0) : a ≤ lo ∧ lo ≤ b ∧ a ≤ hi ∧ hi ≤ b ∧ lo ≤ hi := by
  unfold spanE at h
  cases h1 : inB lo a b with
  | false => rw [h1, cond_false] at h; cases h
  | true =>
    rw [h1, cond_true] at h
    cases h2 : inB hi a b with
    | false => rw [h2, cond_false] at h; cases h
    | true =>
      rw [h2, cond_true] at h
      simp only [inB, Bool.and_eq_true, decide_eq_true_eq] at h1 h2
      split at h
      · cases h
      · omega
theorem linkE_bd {l : Lk} (h : linkE l = 0) : (0 ≤ l.f ∧ l.f ≤ 19) ∧ (0 ≤ l.t ∧ l.t ≤ 19) ∧ l.f ≠ l.t ∧ (0 ≤ l.lo ∧ l.lo ≤ 100000) ∧ (0 ≤ l.hi ∧ l.hi ≤ 100000) ∧ l.lo ≤ l.hi := by
  unfold linkE at h
  cases h1 : inB l.f 0 19 with
  | false => rw [h1, cond_false] at h; cases h
  | true =>
    rw [h1, cond_true] at h
    cases h2 : inB l.t 0 19 with
    | false => rw [h2, cond_false] at h; cases h
    | true =>
      rw [h2, cond_true] at h
      simp only [inB, Bool.and_eq_true, decide_eq_true_eq] at h1 h2
      split at h
      · cases h
      · rename_i hne
        have := spanE_bd h
        exact ⟨by omega, by omega, hne, by omega, by omega, by omega⟩
theorem lsOk_of {ls : List Lk} (h7 : ls.length ≤ 7) (h : linksE ls = 0) : LsOk ls := by
  have key : ∀ i, i < ls.length → linkE ls[i]! = 0 := fun i hi => linksE_all h _ (by rw [getElem!_pos ls i hi]; exact List.getElem_mem _)
  exact ⟨h7, fun i hi => by have := linkE_bd (key i hi); omega, fun i hi => by have := linkE_bd (key i hi); omega⟩
set_option maxHeartbeats 16000000 in
set_option maxRecDepth 100000 in
theorem checkChain_spec [Orc] {B : Nat} {H : Heap} {mk lo hi : Int} {sv : Value} {ls : List Lk} (hB : B ≤ H.n) (hr : RowS 4 H sv (ls.map Lkl)) :
    CallB Try.prog B 26 [Chv mk lo hi sv] H (fun v H' => v = VI (chkC mk lo hi ls) ∧ Keep H H') := by
  refine CV.enter callees false (Orc.hv rfl rfl) Try.func26 rfl (by kernel_rfl) (Nat.le_of_ble_eq_true rfl) hB ?_ (Orc.hw rfl rfl)
  repeat' first
    | refine CO.cons rfl ?_
    | refine CV.seq ?_
    | refine CV.region callees ?_
    | fail
  refine ⟨(by simp only [notTuple]), ?_⟩
  rw [boxCh hr.cells.1]
  generalize hs0 : Heap.new H _ = H0
  have hg0 := new_get hs0
  have k0 := new_keep hs0
  have n0 := new_n hs0
  obtain ⟨b0, hbn0⟩ : ∃ b, Heap.n H = b := ⟨_, rfl⟩
  rw [hbn0] at hg0 n0 ⊢
  have hr0 := hr.keep k0
  repeat' first
    | refine CO.cons rfl ?_
    | refine CO.nil ?_
    | refine CV.seq ?_
    | refine CV.region callees ?_
    | (refine ⟨_, fS foC0 (by decide), ?_⟩)
    | (refine ⟨_, cell_load ag3 hg0 rfl, ?_⟩)
    | fail
  refine (isOwner_spec (by omega)).mono ?_
  unfold chkC
  cases c1 : inB mk 0 19
  · rintro v H1 ⟨rfl, rfl⟩
    repeat' first
      | refine CO.cons rfl ?_
      | refine CO.nil ?_
      | refine CV.seq ?_
      | refine CV.region callees ?_
      | refine CV.cond ?_
      | refine CV.ret ?_
      | fail
    exact ⟨rfl, rfl, k0⟩
  rintro v H1 ⟨rfl, rfl⟩
  repeat' first
    | refine CO.cons rfl ?_
    | refine CO.nil ?_
    | refine CV.seq ?_
    | refine CV.region callees ?_
    | refine CV.cond ?_
    | refine CV.skip ?_
    | (refine ⟨_, fS foC1 (by decide), ?_⟩)
    | (refine ⟨_, ldChS hg0, ?_⟩)
    | fail
  refine (spanCheck_spec (by omega)).mono ?_
  rintro v H2 ⟨rfl, k2⟩
  have l2 := k2.1
  have hg2 := (k2.2 b0 (by omega)).trans hg0
  have hr2 := hr0.keep k2
  rw [cond_true]
  by_cases hsp : spanE lo hi 0 100000 = 0
  rotate_left
  · rw [if_neg hsp]
    repeat' first
      | refine CO.cons rfl ?_
      | refine CO.nil ?_
      | refine CV.seq ?_
      | refine CV.region callees ?_
      | refine CV.cond ?_
      | refine CV.ret ?_
      | (refine ⟨fun _ => ?_, fun _ => ?_⟩ <;> first | (exfalso; omega) | skip)
      | fail
    exact ⟨rfl, rfl, k0.trans k2⟩
  have hsb := spanE_bd hsp
  rw [if_pos hsp]
  by_cases h7 : 7 < ls.length
  · rw [if_pos h7]
    repeat' first
      | refine CO.cons rfl ?_
      | refine CO.nil ?_
      | refine CV.seq ?_
      | refine CV.region callees ?_
      | refine CV.cond ?_
      | refine CV.skip ?_
      | refine CV.ret ?_
      | (refine ⟨_, fS foC2 (by decide), ?_⟩)
      | (refine ⟨_, cell_load agLs hg2 rfl, ?_⟩)
      | (refine ⟨_, ls_len hr2, ?_⟩)
      | (refine ⟨fun _ => ?_, fun _ => ?_⟩ <;> first | (exfalso; omega) | skip)
      | fail
    exact ⟨rfl, rfl, k0.trans k2⟩
  rw [if_neg h7]
  repeat' first
    | refine CO.cons rfl ?_
    | refine CO.nil ?_
    | refine CV.seq ?_
    | refine CV.region callees ?_
    | refine CV.cond ?_
    | refine CV.block ?_
    | refine CV.skip ?_
    | (refine ⟨_, fS foC2 (by decide), ?_⟩)
    | (refine ⟨_, cell_load agLs hg2 rfl, ?_⟩)
    | (refine ⟨_, ls_len hr2, ?_⟩)
    | (refine ⟨fun _ => ?_, fun _ => ?_⟩ <;> first | (exfalso; omega) | skip)
    | fail
  refine CV.loopc ?_
  refine WCv.rounds callees false (α := Nat) (fun i => [(1, .pointer (some ⟨b0, 0, none⟩)), (22, sv), (23, VI ls.length), (24, VI i)]) (fun i Hz => i ≤ ls.length ∧ linksE (ls.drop i) = linksE ls ∧ Hz.get b0 = some (.cells (Chl mk lo hi sv) 26 1) ∧ Keep H Hz ∧ b0 < Hz.n) (fun i => ls.length - i) (0) (by repeat' first | exact trivial | refine ⟨rfl, ?_⟩ | refine ⟨slot_int (by (try simp only [Int.toNat_natCast]); omega), ?_⟩) ?_ ?_
  · exact ⟨by omega, rfl, hg2, k0.trans k2, by omega⟩
  rintro i Hx ⟨hi, hle, hgx, kx, lx⟩ hBx
  have hrx := hr.keep kx
  by_cases hi2 : i < ls.length
  · rw [show ls.drop i = ls[i]! :: ls.drop (i + 1) by rw [List.drop_eq_getElem_cons hi2, getElem!_pos ls i hi2]] at hle
    simp only [linksE] at hle
    repeat' first
      | refine CO.cons rfl ?_
      | refine CO.nil ?_
      | refine CV.seq ?_
      | refine CV.region callees ?_
      | refine CV.cond ?_
      | refine CV.block ?_
      | refine CV.skip ?_
      | (refine ⟨_, ls_addr hrx (by omega) (by omega), ?_⟩)
      | (refine ⟨_, ls_load hrx hi2, ?_⟩)
      | (refine ⟨_, _, alLk, ?_⟩)
      | (refine ⟨fun _ => ?_, fun _ => ?_⟩ <;> first | (exfalso; omega) | skip)
      | fail
    generalize hs4 : Heap.new Hx _ = H4
    have hg4 := new_get hs4
    have k4 := new_keep hs4
    have n4 := new_n hs4
    obtain ⟨b4, hbn4⟩ : ∃ b, Heap.n Hx = b := ⟨_, rfl⟩
    rw [hbn4] at hg4 n4 ⊢
    repeat' first
      | fail
    refine ⟨_, _, stLk hg4, by omega, ?_⟩
    generalize hs5 : Heap.set H4 b4 _ = H5
    have hg5 : H5.get b4 = some (.cells (Lkl ls[i]!) 28 1) := set_get hs5
    have n5 := set_n hs5
    have o5 := set_old hs5
    have k5 : Keep Hx H5 := keep_put k4 (by omega) o5 n5
    have l5 := k5.1
    repeat' first
      | refine CO.cons rfl ?_
      | refine CO.nil ?_
      | refine CV.seq ?_
      | refine CV.region callees ?_
      | (refine ⟨_, ldLk hg5, ?_⟩)
      | fail
    refine (checkLink_spec (by omega)).mono ?_
    rintro v H6 ⟨rfl, k6⟩
    have l6 := k6.1
    have k56 := k5.trans k6
    by_cases e : linkE ls[i]! = 0
    · rw [if_pos e] at hle
      repeat' first
        | refine CO.cons rfl ?_
        | refine CO.nil ?_
        | refine CV.seq ?_
        | refine CV.region callees ?_
        | refine CV.cond ?_
        | refine CV.skip ?_
        | refine ⟨(⟨by omega, by omega⟩ : inI64 _), ?_⟩
        | (refine ⟨fun _ => ?_, fun _ => ?_⟩ <;> first | (exfalso; omega) | skip)
        | fail
      refine ⟨(i + 1), (by repeat' first | exact trivial | refine ⟨rfl, ?_⟩ | refine ⟨slot_int (by (try simp only [Int.toNat_natCast]); omega), ?_⟩), (by (try dsimp only); omega), ?_⟩
      exact ⟨by omega, hle, (k56.2 b0 (by omega)).trans hgx, kx.trans k56, by omega⟩
    · rw [if_neg e] at hle
      rw [hle] at e
      rw [if_neg e]
      rw [hle]
      repeat' first
        | refine CO.cons rfl ?_
        | refine CO.nil ?_
        | refine CV.seq ?_
        | refine CV.region callees ?_
        | refine CV.cond ?_
        | refine CV.ret ?_
        | (refine ⟨fun _ => ?_, fun _ => ?_⟩ <;> first | (exfalso; omega) | skip)
        | fail
      exact ⟨rfl, rfl, kx.trans k56⟩
  obtain rfl : i = ls.length := by omega
  rw [List.drop_length] at hle
  have hz : linksE ls = 0 := hle.symm
  rw [if_pos hz]
  repeat' first
    | refine CO.cons rfl ?_
    | refine CO.nil ?_
    | refine CV.seq ?_
    | refine CV.region callees ?_
    | refine CV.cond ?_
    | refine CV.exit ?_
    | (refine ⟨_, ldCh hgx, ?_⟩)
    | (refine ⟨fun _ => ?_, fun _ => ?_⟩ <;> first | (exfalso; omega) | skip)
    | fail
  refine (hasStory_spec (by omega) hrx (lsOk_of (by omega) hz) (by omega) (by omega)).mono ?_
  cases hos : (ordersL mk lo ls).isEmpty
  · rintro v H6 ⟨rfl, k6⟩
    repeat' first
      | refine CO.cons rfl ?_
      | refine CO.nil ?_
      | refine CV.seq ?_
      | refine CV.region callees ?_
      | refine CV.cond ?_
      | refine CV.skip ?_
      | refine CV.ret ?_
      | fail
    exact ⟨rfl, rfl, kx.trans k6⟩
  · rintro v H6 ⟨rfl, k6⟩
    repeat' first
      | refine CO.cons rfl ?_
      | refine CO.nil ?_
      | refine CV.seq ?_
      | refine CV.region callees ?_
      | refine CV.cond ?_
      | refine CV.ret ?_
      | fail
    exact ⟨rfl, rfl, kx.trans k6⟩
end Go.Proofs.Ytijimplcjaeneaa



/- What happens in the stories that have an order. -/
namespace Go.Proofs.Ytijimplcjaeneaa
open Go.AI
structure Ev where
  k : Int
  o : Int
  lo : Int
  hi : Int
deriving Inhabited
abbrev Evl (e : Ev) : List Value := [VI e.k, VI e.o, VI e.lo, VI e.hi]
abbrev Evv (e : Ev) : Value := .agg #[VI e.k, VI e.o, VI e.lo, VI e.hi]
theorem agEv : isAggB Try.prog 124 = some true := by kernel_rfl
theorem szEv : sizeB Try.prog 124 = some 4 := by kernel_rfl
theorem unEv : Try.prog.underlying 121 = some (.slice 124) := by kernel_rfl
theorem foE0 : fieldOff Try.prog 124 0 = some (0, 1) := by kernel_rfl
theorem foE1 : fieldOff Try.prog 124 1 = some (1, 1) := by kernel_rfl
theorem foE2 : fieldOff Try.prog 124 2 = some (2, 2) := by kernel_rfl
theorem zeroEv : zeroCellsW Try.prog 124 = some (Evl ⟨0, 0, 0, 0⟩) := by kernel_rfl
theorem zeroEvb : zeroBB Try.prog 124 = some (Evl ⟨0, 0, 0, 0⟩, 32) := by kernel_rfl
theorem alEv {H : Heap} : sAlloc Try.prog H 124 = some (.pointer (some ⟨H.n, 0, none⟩), H.new (.cells (Evl ⟨0, 0, 0, 0⟩) 124 1), H.n) := alloc_ofW zeroEv
theorem stEv {H : Heap} {b k : Nat} {c d : Ev} {e : TypeId} (hg : H.get b = some (.cells (Evl c) e (k + 1))) : astore Try.prog 124 H (Evv d) (.pointer (some ⟨b, 0, none⟩)) = some (H.set b (.cells (Evl d) e (k + 1)), b) := store_allW (vs := Evl d) hg rfl szEv rfl
theorem buEv {a b c d : Int} : abuild Try.prog 124 [(0, VI a), (1, VI b), (2, Spv c d)] = some (Evv ⟨a, b, c, d⟩) := by kernel_rfl
theorem buSp {c d : Int} : abuild Try.prog 23 [(0, VI c), (1, VI d)] = some (Spv c d) := by kernel_rfl
theorem evOne {H : Heap} {x : Ev} : abuildSlice Try.prog H 121 1 [(0, Evv x)] = some (.slice (some ⟨H.n, 0, none⟩) 1 0, H.new (.cells (Evl x) 124 2), H.n) :=
  build_oneS (row := Evl x) unEv zeroEvb (by decide) rfl
abbrev OwnE (H : Heap) (v : Value) (l : List Ev) (B : Nat) : Prop := OwnS 124 4 H v (l.map Evl) B
theorem evPush {K : Value → Heap → Prop} {B B0 : Nat} {H : Heap} {x : Value} {l : List Ev} {d : Ev} (hx : OwnE H x l B0) (hB0 : B0 ≤ H.n) (hB : B ≤ B0) (hn : l.length < 1000000)
    (hk : ∀ r H', OwnE H' r (l ++ [d]) B0 → KeepBut x H H' → (∀ c, blkOf r = some c → H.n ≤ c) → K r H') :
    ∃ v H' b, aappend Try.prog (H.new (.cells (Evl d) 124 2)) #[121, 121] x (.slice (some ⟨H.n, 0, none⟩) 1 0) = some (v, H', b) ∧ B ≤ b ∧ K v H' :=
  append_askS (z := Evl ⟨0, 0, 0, 0⟩) unEv zeroEvb (by decide) rfl hx hB0 hB (by rw [List.length_map]; exact hn) (fun r H' ho => hk r H' (by rw [OwnE, List.map_append]; exact ho))
theorem ev_at {l : List Ev} {j : Nat} (hj : j < l.length) : (l.map Evl)[j]? = some (Evl l[j]!) := by rw [List.getElem?_map, List.getElem?_eq_getElem hj, getElem!_pos l j hj]; rfl
theorem ev_len {H : Heap} {v : Value} {l : List Ev} (h : RowS 4 H v (l.map Evl)) : alen Try.prog H 121 v = some (.int .i64 l.length) := by
  have := h.alen unEv; rwa [List.length_map] at this
theorem ev_addr {H : Heap} {v : Value} {l : List Ev} (h : RowS 4 H v (l.map Evl)) {n : Int} (h0 : 0 ≤ n) (h1 : n < l.length) : aindexAddr Try.prog 121 v (.int .i64 n) = some (elemS v 4 n.toNat) := h.addr unEv szEv h0 (by rw [List.length_map]; exact h1)
theorem ev_load {H : Heap} {v : Value} {l : List Ev} (h : RowS 4 H v (l.map Evl)) {j : Nat} (hj : j < l.length) : aload Try.prog 124 H (elemS v 4 j) = some (Evv l[j]!) := h.load agEv szEv (ev_at hj)
/-- A row of events that is there lies in one block. -/
theorem evCells {H : Heap} {v : Value} {l : List Ev} {B : Nat} (h : OwnE H v l B) (hne : 0 < l.length) : ∃ b, v = .slice (some ⟨b, 0, none⟩) l.length 0 ∧ B ≤ b ∧ b < H.n ∧ H.get b = some (.cells (l.map Evl).flatten 124 2) := by
  rcases h.2 with ⟨_, h2⟩ | ⟨b, h1, h2, h3, h4⟩
  · have h3 : l = [] := by simpa using h2
    rw [h3] at hne
    simp at hne
  · exact ⟨b, by rw [h1, List.length_map], h2, h3, h4⟩
theorem evRows {l : List Ev} : ∀ r ∈ l.map Evl, r.length = 4 := by
  intro r hr
  obtain ⟨e, _, rfl⟩ := List.mem_map.1 hr
  rfl
theorem ev_cell {l : List Ev} {j q : Nat} {w : Value} (hj : j < l.length) (hq : (Evl l[j]!)[q]? = some w) : (l.map Evl).flatten[j * 4 + q]? = some w := flat_at evRows (ev_at hj) hq
theorem ev_adr {b n c : Nat} {i : Int} (h0 : 0 ≤ i) (h1 : i < n) : aindexAddr Try.prog 121 (.slice (some ⟨b, 0, none⟩) n c) (.int .i64 i) = some (.pointer (some ⟨b, i.toNat * 4, none⟩)) := by
  simp [aindexAddr, asIdx, unEv, szEv, h0, h1]
theorem ev_sl {X : Heap} {b n c : Nat} : alen Try.prog X 121 (.slice (some ⟨b, 0, none⟩) n c) = some (VI n) := by simp [alen, unEv]
/-- The events of an order with their soonest days. -/
def upL (ls : List Lk) : Int → List Int → List Ev
  | _, [] => []
  | p, k :: t => ⟨k, ls[k.toNat]!.t, max ls[k.toNat]!.lo (p + 1), ls[k.toNat]!.hi⟩ :: upL ls (max ls[k.toNat]!.lo (p + 1)) t
theorem upL_len {ls : List Lk} : ∀ {o : List Int} {p : Int}, (upL ls p o).length = o.length
  | [], _ => rfl
  | k :: t, p => by simp only [upL, List.length_cons, upL_len]
theorem upL_snoc {ls : List Lk} {k : Int} : ∀ {t : List Int} {a : Ev}, a :: upL ls a.lo (t ++ [k]) = (a :: upL ls a.lo t) ++ [⟨k, ls[k.toNat]!.t, max ls[k.toNat]!.lo ((a :: upL ls a.lo t)[t.length]!.lo + 1), ls[k.toNat]!.hi⟩]
  | [], a => rfl
  | k0 :: t, a => by
    have ih := upL_snoc (ls := ls) (k := k) (t := t) (a := ⟨k0, ls[k0.toNat]!.t, max ls[k0.toNat]!.lo (a.lo + 1), ls[k0.toNat]!.hi⟩)
    simp only [List.cons_append, upL]
    rw [List.cons_append] at ih
    rw [ih]
    rfl
theorem upL_bd {ls : List Lk} (h : LsOk ls) : ∀ {o : List Int} {p : Int}, (∀ k ∈ o, 0 ≤ k ∧ k < ls.length) → 0 ≤ p → ∀ (j : Nat), j < o.length → (0 ≤ (upL ls p o)[j]!.lo ∧ (upL ls p o)[j]!.lo ≤ max 100000 p + (j + 1)) ∧ 0 ≤ (upL ls p o)[j]!.hi ∧ (upL ls p o)[j]!.hi ≤ 100000
  | [], p, _, _, j, hj => by simp at hj
  | k :: t, p, hk, hp, j, hj => by
    have hk0 := hk k (List.mem_cons_self ..)
    have a := h.lo k.toNat (by omega)
    have b := h.hi k.toNat (by omega)
    cases j with
    | zero => 
      simp only [upL, List.getElem!_cons_zero]
      omega
    | succ j =>
      have ih := upL_bd h (o := t) (p := max ls[k.toNat]!.lo (p + 1)) (fun k hk' => hk k (List.mem_cons_of_mem _ hk')) (by omega) j (by simpa using hj)
      simp only [upL, List.getElem!_cons_succ]
      omega
/-- The latest days, with all that comes behind. -/
def downL : List Ev → List Ev
  | [] => []
  | e :: t => match downL t with
    | [] => [e]
    | f :: r => ⟨e.k, e.o, e.lo, min e.hi (f.hi - 1)⟩ :: f :: r
theorem downL_len : ∀ {E : List Ev}, (downL E).length = E.length
  | [] => rfl
  | e :: t => by
    have ih := downL_len (E := t)
    unfold downL
    cases hd : downL t with
    | nil => rw [hd] at ih; simp only [List.length_nil, List.length_cons] at ih ⊢; omega
    | cons f r => rw [hd] at ih; simp only [List.length_cons] at ih ⊢; omega
theorem downL_last : ∀ {E : List Ev}, 0 < E.length → (downL E)[E.length - 1]! = E[E.length - 1]!
  | [e], _ => rfl
  | e :: e2 :: t, _ => by
    have ih := downL_last (E := e2 :: t) (by simp)
    have hl := downL_len (E := e2 :: t)
    unfold downL
    cases hd : downL (e2 :: t) with
    | nil => rw [hd] at hl; simp at hl
    | cons f r =>
      rw [hd] at ih
      simp only [List.length_cons, Nat.add_one_sub_one] at ih ⊢
      rw [List.getElem!_cons_succ, List.getElem!_cons_succ]
      exact ih
theorem downL_at : ∀ {E : List Ev} {j : Nat}, j + 1 < E.length → (downL E)[j]! = ⟨E[j]!.k, E[j]!.o, E[j]!.lo, min E[j]!.hi ((downL E)[j + 1]!.hi - 1)⟩
  | e :: t, j, hj => by
    have hl := downL_len (E := t)
    simp only [List.length_cons] at hj
    unfold downL
    cases hd : downL t with
    | nil => rw [hd] at hl; simp at hl; omega
    | cons f r =>
      cases j with
      | zero => rfl
      | succ j =>
        have ih := downL_at (E := t) (j := j) (by omega)
        rw [hd] at ih
        simp only [List.getElem!_cons_succ]
        exact ih
theorem downL_bd : ∀ {E : List Ev}, (∀ j, j < E.length → 0 ≤ E[j]!.hi ∧ E[j]!.hi ≤ 100000) → ∀ j, j < E.length → -(E.length : Int) ≤ (downL E)[j]!.hi ∧ (downL E)[j]!.hi ≤ 100000
  | [], _, j, hj => by simp at hj
  | e :: t, h, j, hj => by
    have hl := downL_len (E := t)
    have ih := downL_bd (E := t) fun j hj => by have := h (j + 1) (by simpa using hj); rwa [List.getElem!_cons_succ] at this
    have h0 := h 0 (by simp)
    rw [List.getElem!_cons_zero] at h0
    unfold downL
    simp only [List.length_cons] at hj ⊢
    cases hd : downL t with
    | nil =>
      rw [hd] at hl; simp at hl
      obtain rfl : j = 0 := by omega
      simp only [List.getElem!_cons_zero]; omega
    | cons f r =>
      rw [hd] at ih hl
      simp only [List.length_cons] at hl
      cases j with
      | zero =>
        have := ih 0 (by omega)
        simp only [List.getElem!_cons_zero] at this ⊢
        omega
      | succ j =>
        have := ih j (by omega)
        simp only [List.getElem!_cons_succ]
        omega
def evs0 (mk lo hi : Int) (ls : List Lk) (o : List Int) : List Ev := ⟨-1, mk, lo, hi⟩ :: upL ls lo o
def evsL (mk lo hi : Int) (ls : List Lk) (o : List Int) : List Ev := downL (evs0 mk lo hi ls o)
theorem evs0_len {mk lo hi : Int} {ls : List Lk} {o : List Int} : (evs0 mk lo hi ls o).length = o.length + 1 := by rw [evs0, List.length_cons, upL_len]
theorem evs0_bd {mk lo hi : Int} {ls : List Lk} {o : List Int} (h : LsOk ls) (ho : ∀ k ∈ o, 0 ≤ k ∧ k < ls.length) (h0 : 0 ≤ lo) (h1 : lo ≤ 100000) (h2 : 0 ≤ hi) (h3 : hi ≤ 100000) : ∀ j, j < (evs0 mk lo hi ls o).length → (0 ≤ (evs0 mk lo hi ls o)[j]!.lo ∧ (evs0 mk lo hi ls o)[j]!.lo ≤ 100000 + j) ∧ 0 ≤ (evs0 mk lo hi ls o)[j]!.hi ∧ (evs0 mk lo hi ls o)[j]!.hi ≤ 100000 := by
  intro j hj
  rw [evs0_len] at hj
  unfold evs0
  cases j with
  | zero => simp only [List.getElem!_cons_zero]; omega
  | succ j =>
    have := upL_bd h ho h0 j (by omega)
    rw [List.getElem!_cons_succ]
    omega
end Go.Proofs.Ytijimplcjaeneaa

