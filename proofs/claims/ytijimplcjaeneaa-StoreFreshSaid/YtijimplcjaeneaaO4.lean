/- Several texts in one. -/
import Derived.Test.YtijimplcjaeneaaO3
import Derived.Test.YtijimplcjaeneaaO1
set_option linter.unusedVariables false
set_option linter.unusedSimpArgs false

/- Loans as cells; loans made of numbers. -/
namespace Go.Proofs.Ytijimplcjaeneaa
open Go.AI
structure Lo where
  t : Int
  f : Int
  o : Int
  w : Int
deriving Inhabited, DecidableEq
abbrev Lol (l : Lo) : List Value := [VI l.t, VI l.f, VI l.o, VI l.w]
abbrev Lov (l : Lo) : Value := .agg #[VI l.t, VI l.f, VI l.o, VI l.w]
theorem agLo : isAggB Try.prog 99 = some true := by kernel_rfl
theorem szLo : sizeB Try.prog 99 = some 4 := by kernel_rfl
theorem agOs : isAggB Try.prog 59 = some false := by kernel_rfl
theorem szOs : sizeB Try.prog 59 = some 1 := by kernel_rfl
theorem unOs : Try.prog.underlying 59 = some (.slice 99) := by kernel_rfl
theorem foO0 : fieldOff Try.prog 99 0 = some (0, 1) := by kernel_rfl
theorem foO1 : fieldOff Try.prog 99 1 = some (1, 1) := by kernel_rfl
theorem foO2 : fieldOff Try.prog 99 2 = some (2, 1) := by kernel_rfl
theorem foO3 : fieldOff Try.prog 99 3 = some (3, 1) := by kernel_rfl
theorem zeroLo : zeroCellsW Try.prog 99 = some (Lol ⟨0, 0, 0, 0⟩) := by kernel_rfl
theorem zeroLob : zeroBB Try.prog 99 = some (Lol ⟨0, 0, 0, 0⟩, 32) := by kernel_rfl
theorem alLo {H : Heap} : sAlloc Try.prog H 99 = some (.pointer (some ⟨H.n, 0, none⟩), H.new (.cells (Lol ⟨0, 0, 0, 0⟩) 99 1), H.n) := alloc_ofW zeroLo
theorem stLo {H : Heap} {b k : Nat} {c d : Lo} {e : TypeId} (hg : H.get b = some (.cells (Lol c) e (k + 1))) : astore Try.prog 99 H (Lov d) (.pointer (some ⟨b, 0, none⟩)) = some (H.set b (.cells (Lol d) e (k + 1)), b) := store_allW (vs := Lol d) hg rfl szLo rfl
theorem ldLo {H : Heap} {b : Nat} {c : Lo} {e : TypeId} {k : Nat} (hg : H.get b = some (.cells (Lol c) e k)) : aload Try.prog 99 H (.pointer (some ⟨b, 0, none⟩)) = some (Lov c) := agg_load agLo szLo hg (Nat.le_refl _)
theorem buLo {a b c d : Int} : abuild Try.prog 99 [(0, VI a), (1, VI b), (2, VI c), (3, VI d)] = some (Lov ⟨a, b, c, d⟩) := by kernel_rfl
theorem loOne {H : Heap} {x : Lo} : abuildSlice Try.prog H 59 1 [(0, Lov x)] = some (.slice (some ⟨H.n, 0, none⟩) 1 0, H.new (.cells (Lol x) 99 2), H.n) :=
  build_oneS (row := Lol x) unOs zeroLob (by decide) rfl
abbrev OwnLo (H : Heap) (v : Value) (l : List Lo) (B : Nat) : Prop := OwnS 99 4 H v (l.map Lol) B
theorem loPush {K : Value → Heap → Prop} {B B0 : Nat} {H : Heap} {x : Value} {l : List Lo} {d : Lo} (hx : OwnLo H x l B0) (hB0 : B0 ≤ H.n) (hB : B ≤ B0) (hn : l.length < 1000000)
    (hk : ∀ r H', OwnLo H' r (l ++ [d]) B0 → KeepBut x H H' → (∀ c, blkOf r = some c → H.n ≤ c) → K r H') :
    ∃ v H' b, aappend Try.prog (H.new (.cells (Lol d) 99 2)) #[59, 59] x (.slice (some ⟨H.n, 0, none⟩) 1 0) = some (v, H', b) ∧ B ≤ b ∧ K v H' :=
  append_askS (z := Lol ⟨0, 0, 0, 0⟩) unOs zeroLob (by decide) rfl hx hB0 hB (by rw [List.length_map]; exact hn) (fun r H' ho => hk r H' (by rw [OwnLo, List.map_append]; exact ho))
theorem lo_at {l : List Lo} {j : Nat} (hj : j < l.length) : (l.map Lol)[j]? = some (Lol l[j]!) := by rw [List.getElem?_map, List.getElem?_eq_getElem hj, getElem!_pos l j hj]; rfl
theorem lo_len {H : Heap} {v : Value} {l : List Lo} (h : RowS 4 H v (l.map Lol)) : alen Try.prog H 59 v = some (.int .i64 l.length) := by
  have := h.alen unOs; rwa [List.length_map] at this
theorem lo_addr {H : Heap} {v : Value} {l : List Lo} (h : RowS 4 H v (l.map Lol)) {n : Int} (h0 : 0 ≤ n) (h1 : n < l.length) : aindexAddr Try.prog 59 v (.int .i64 n) = some (elemS v 4 n.toNat) := h.addr unOs szLo h0 (by rw [List.length_map]; exact h1)
theorem lo_load {H : Heap} {v : Value} {l : List Lo} (h : RowS 4 H v (l.map Lol)) {j : Nat} (hj : j < l.length) : aload Try.prog 99 H (elemS v 4 j) = some (Lov l[j]!) := h.load agLo szLo (lo_at hj)
theorem lo_f {H : Heap} {v : Value} {l : List Lo} (h : RowS 4 H v (l.map Lol)) {f o n j : Nat} (hf : fieldOff Try.prog 99 f = some (o, n)) (hn : n ≠ 0) (hj : j < l.length) : afieldAddr Try.prog 99 (elemS v 4 j) f = some (fieldOf (elemS v 4 j) o) := h.faddr hf hn (by rw [List.length_map]; exact hj)
theorem lo_l {H : Heap} {v : Value} {l : List Lo} (h : RowS 4 H v (l.map Lol)) {o j : Nat} {w : Value} (hj : j < l.length) (ho : (Lol l[j]!)[o]? = some w) : aload Try.prog 3 H (fieldOf (elemS v 4 j) o) = some w := h.fload ag3 (lo_at hj) ho
/-- The error of a loan. -/
def loE (x : Lo) : Int := bif inB x.t 0 49 && (inB x.f 0 100000 && (inB x.o 0 100000 && inB x.w 0 1000)) then (if x.o < x.f then 11 else 0) else 2
theorem loE_ok {x : Lo} (h0 : 0 ≤ x.t) (h1 : x.t ≤ 49) (h2 : 0 ≤ x.f) (h3 : x.f ≤ x.o) (h4 : x.o ≤ 100000) (h5 : 0 ≤ x.w) (h6 : x.w ≤ 1000) : loE x = 0 := by
  simp only [loE, inB, decide_eq_true h0, decide_eq_true h1, decide_eq_true h2, decide_eq_true h4, decide_eq_true h5, decide_eq_true h6, decide_eq_true (show x.f ≤ 100000 by omega), decide_eq_true (show 0 ≤ x.o by omega), Bool.and_self, cond_true]
  rw [if_neg (by omega)]
theorem bld3 {H : Heap} {x y z : Int} : abuildSlice Try.prog H 29 3 [(0, VI x), (1, VI y), (2, VI z)] = some (.slice (some ⟨H.n, 0, none⟩) 3 0, H.new (.cells [VI x, VI y, VI z] 3 2), H.n) := build_vals [VI x, VI y, VI z] un22 one3 rfl (by simp)
set_option maxHeartbeats 8000000 in
set_option maxRecDepth 100000 in
theorem loansOf_spec [Orc] {B b most : Nat} {H : Heap} (hB : B ≤ b) (hn : B ≤ H.n) (hb : Box b H) (hm : most ≤ 10) :
    CallB Try.prog B 38 [bp b, VI most] H (fun r H' => (∃ l, OwnLo H' r l H.n ∧ l.length ≤ most ∧ ∀ x ∈ l, loE x = 0) ∧ Box b H' ∧ KeepX b H H') := by
  have hbn := hb.1
  refine CV.enter callees false (Orc.hv rfl rfl) Try.func38 rfl (by kernel_rfl) (Nat.le_of_ble_eq_true rfl) hn ?_ (Orc.hw rfl rfl)
  repeat' first
    | refine CO.cons rfl ?_
    | refine CO.nil ?_
    | refine CV.seq ?_
    | refine CV.region callees ?_
    | refine ⟨(⟨by omega, by omega⟩ : inI64 _), ?_⟩
    | fail
  refine (up_spec hB (by omega) hb (by omega)).mono ?_
  rintro r H1 ⟨⟨k, rfl, hk0, hk1⟩, hb1, x1⟩
  have l1 := x1.1
  obtain ⟨k, rfl⟩ : ∃ n : Nat, k = (n : Int) := ⟨k.toNat, by omega⟩
  repeat' first
    | refine CO.cons rfl ?_
    | refine CO.nil ?_
    | refine CV.block ?_
    | fail
  refine CV.loopc ?_
  refine WCv.rounds callees false (α := Nat × Value × List Lo) (fun (i, q, l) => [(0, bp b), (5, q), (6, VI i)]) (fun (i, q, l) Hz => i + l.length ≤ most ∧ OwnLo Hz q l H.n ∧ (∀ x ∈ l, loE x = 0) ∧ Box b Hz ∧ KeepX b H Hz ∧ H.n ≤ Hz.n) (fun (i, q, l) => i) (k, nilS, []) (by repeat' first | exact trivial | refine ⟨rfl, ?_⟩ | refine ⟨slot_int (by (try simp only [Int.toNat_natCast]); omega), ?_⟩) ?_ ?_
  · exact ⟨by simp; omega, ⟨fun r hr => by simp at hr, .inl ⟨rfl, rfl⟩⟩, by simp, hb1, x1, l1⟩
  clear hb1 x1 l1
  rintro ⟨i, q, l⟩ Hx ⟨hi, hq, hl, hbx, xx, lx⟩ hBx
  by_cases hi2 : 0 < i
  · repeat' first
      | refine CO.cons rfl ?_
      | refine CO.nil ?_
      | refine CV.seq ?_
      | refine CV.region callees ?_
      | refine CV.cond ?_
      | refine CV.block ?_
      | refine CV.skip ?_
      | (refine ⟨fun _ => ?_, fun _ => ?_⟩ <;> first | (exfalso; omega) | skip)
      | fail
    refine (up_spec hB (by omega) hbx (by omega)).mono ?_
    rintro r H2 ⟨⟨f, rfl, f0, f1⟩, hb2, x2⟩
    have l2 := x2.1
    repeat' first
      | refine CO.cons rfl ?_
      | refine CO.nil ?_
      | refine CV.region callees ?_
      | fail
    refine (up_spec hB (by omega) hb2 (by omega)).mono ?_
    rintro r H3 ⟨⟨t, rfl, t0, t1⟩, hb3, x3⟩
    have l3 := x3.1
    repeat' first
      | refine CO.cons rfl ?_
      | fail
    refine (up_spec hB (by omega) hb3 (by omega)).mono ?_
    rintro r H4 ⟨⟨g, rfl, g0, g1⟩, hb4, x4⟩
    have l4 := x4.1
    repeat' first
      | refine CO.cons rfl ?_
      | refine ⟨(⟨by omega, by omega⟩ : inI64 _), ?_⟩
      | fail
    refine (up_spec hB (by omega) hb4 (by omega)).mono ?_
    rintro r H5 ⟨⟨u, rfl, u0, u1⟩, hb5, x5⟩
    have l5 := x5.1
    repeat' first
      | refine CO.cons rfl ?_
      | fail
    refine (up_spec hB (by omega) hb5 (by omega)).mono ?_
    rintro r H6 ⟨⟨z, rfl, z0, z1⟩, hb6, x6⟩
    have l6 := x6.1
    repeat' first
      | refine CO.cons rfl ?_
      | (refine ⟨_, _, bld3, ?_⟩)
      | fail
    generalize hs7 : Heap.new H6 _ = H7
    have hw7 : Ints H7 (.slice (some ⟨H6.n, 0, none⟩) 3 0) [0, u, z] := by rw [← hs7]; exact new_row rfl
    have k7 := new_keep hs7
    have l7 := k7.1
    refine (pick_spec hB (by omega) (hb6.keep k7) hw7 (by simp) (by simp)).mono ?_
    rintro r H8 ⟨⟨j, hj, rfl⟩, hb8, x8⟩
    have l8 := x8.1
    have hj3 : j < 3 := hj
    have hwv : 0 ≤ ([0, u, z] : List Int)[j]! ∧ ([0, u, z] : List Int)[j]! ≤ 20 := by
      rcases (by omega : j = 0 ∨ j = 1 ∨ j = 2) with rfl | rfl | rfl
      · show (0 : Int) ≤ 0 ∧ (0 : Int) ≤ 20; omega
      · show 0 ≤ u ∧ u ≤ 20; omega
      · show 0 ≤ z ∧ z ≤ 20; omega
    generalize ([0, u, z] : List Int)[j]! = w at hwv
    have xall : KeepX b Hx H8 := ((((x2.trans x3).trans x4).trans x5).trans x6).trans ((k7.butX b).trans x8)
    have hq8 : OwnLo H8 q l H.n := OwnS.boxed hq xall hbx
    have xx8 := xx.trans xall
    have hok : loE ⟨t, f, f + g, w⟩ = 0 := loE_ok (by show 0 ≤ t; omega) (by show t ≤ 49; omega) (by show 0 ≤ f; omega) (by show f ≤ f + g; omega) (by show f + g ≤ 100000; omega) hwv.1 (by show w ≤ 1000; omega)
    have hb8n := hb8.1
    have hqb : ∀ c, blkOf q = some c → H.n ≤ c := fun c hc => (hq8.lt hc).1
    repeat' first
      | refine CO.cons rfl ?_
      | (refine ⟨_, buLo, ?_⟩)
      | (refine ⟨_, _, loOne, ?_⟩)
      | fail
    refine loPush hq8 (by omega) (by omega) (by omega) ?_
    intro q9 H9 hq9 kb9 hf9
    have l9 := kb9.le
    have hii : ((i : Int) - 1) = ((i - 1 : Nat) : Int) := by omega
    repeat' first
      | refine CO.cons rfl ?_
      | refine CO.nil ?_
      | refine CV.region callees ?_
      | refine ⟨(⟨by omega, by omega⟩ : inI64 _), ?_⟩
      | fail
    rw [hii]
    refine ⟨(i - 1, q9, l ++ [⟨t, f, f + g, w⟩]), (by repeat' first | exact trivial | refine ⟨rfl, ?_⟩ | refine ⟨slot_int (by (try simp only [Int.toNat_natCast]); omega), ?_⟩), (by (try dsimp only); omega), ?_⟩
    refine ⟨by simp; omega, hq9, fun x hx => ?_, hb8.keepBut kb9 (fun h => by have := hqb _ h; omega), kb9.keepX xx8 fun c hc => hqb c hc, by omega⟩
    rcases List.mem_append.1 hx with h | h
    · exact hl x h
    · rw [List.mem_singleton] at h; subst h; exact hok
  · repeat' first
      | refine CO.cons rfl ?_
      | refine CO.nil ?_
      | refine CV.seq ?_
      | refine CV.region callees ?_
      | refine CV.cond ?_
      | refine CV.exit ?_
      | refine CV.ret ?_
      | (refine ⟨fun _ => ?_, fun _ => ?_⟩ <;> first | (exfalso; omega) | skip)
      | fail
    exact ⟨by simp only [List.all_cons, List.all_nil, OwnS.notTuple hq]; rfl, ⟨l, hq, by omega, hl⟩, hbx, xx⟩
theorem lo_none {H : Heap} : abuildSlice Try.prog H 59 0 [] = some (.slice (some ⟨H.n, 0, none⟩) 0 0, H.new (.cells [] 99 2), H.n) := by kernel_rfl
set_option maxRecDepth 100000 in
theorem ownLoans_spec [Orc] {B : Nat} {H : Heap} {v : Value} {l : List Lo} (hB : B ≤ H.n) (hl : RowS 4 H v (l.map Lol)) (hn : l.length < 1000000) :
    CallB Try.prog B 39 [v] H (fun r H' => OwnLo H' r l H.n ∧ Keep H H') := by
  refine CV.enter callees false (Orc.hv rfl rfl) Try.func39 rfl (by kernel_rfl) (Nat.le_of_ble_eq_true rfl) hB ?_ (Orc.hw rfl rfl)
  repeat' first
    | refine CO.cons rfl ?_
    | refine CO.nil ?_
    | refine CV.seq ?_
    | refine CV.region callees ?_
    | (refine ⟨_, _, lo_none, ?_⟩)
    | fail
  refine copy_askS (z := Lol ⟨0, 0, 0, 0⟩) unOs zeroLob (by decide) hl hB (by rw [List.length_map]; exact hn) ?_
  intro r H' ho k
  repeat' first
    | refine CO.cons rfl ?_
    | refine CO.nil ?_
    | refine CV.ret ?_
    | fail
  exact ⟨by simp only [List.all_cons, List.all_nil, OwnS.notTuple ho]; rfl, ho, k⟩
end Go.Proofs.Ytijimplcjaeneaa


/- Choices as bits: their numbers, their lists, what they choose; loans that are chosen. -/
namespace Go.AI
/-- The bits of a number below n, the highest one first. -/
def bitsB (c : Nat) : Nat → List Bool
  | 0 => []
  | n + 1 => c.testBit n :: bitsB c n
/-- What is chosen of a list. -/
def selX {α : Type} : List Bool → List α → List α
  | b :: bs, x :: xs => if b then x :: selX bs xs else selX bs xs
  | _, _ => []
end Go.AI
namespace Go.Proofs.Ytijimplcjaeneaa
open Go.AI
section
variable {P : Program} {tm : Tm} {H : Heap} {q : Oper} {t u : TypeId} {x y : Operand}
end
end Go.Proofs.Ytijimplcjaeneaa



/- Loans that contradict each other; what they are worth; whether they may be. -/
namespace Go.Proofs.Ytijimplcjaeneaa
open Go.AI
def contra (a b : Lo) : Bool := decide (a.t = b.t) && (decide (a.f ≤ b.o) && decide (b.f ≤ a.o))
def AccP (l : List Lo) : Prop := ∀ i, i < l.length → ∀ j, j < i → contra l[i]! l[j]! = false
def wsum : List Lo → Int
  | [] => 0
  | x :: t => x.w + wsum t
end Go.Proofs.Ytijimplcjaeneaa



/- Which loans may be; Lend. -/
namespace Go.Proofs.Ytijimplcjaeneaa
open Go.AI
end Go.Proofs.Ytijimplcjaeneaa



/- Lend. -/
namespace Go.Proofs.Ytijimplcjaeneaa
open Go.AI
def memL (l : List Lo) (c : Nat) : List Lo := selX (bitsB c l.length) l
/-- A choice that may be, and than which none of the first ones is better, nor as good and greater. -/
def BestN (l : List Lo) (k best : Nat) : Prop := best < 2 ^ l.length ∧ AccP (memL l best) ∧ ∀ c, c < k → AccP (memL l c) → wsum (memL l c) < wsum (memL l best) ∨ (wsum (memL l c) = wsum (memL l best) ∧ ((memL l best).length < (memL l c).length ∨ ((memL l best).length = (memL l c).length ∧ c ≤ best)))
theorem selX_zero {α : Type} {n : Nat} : ∀ {l : List α}, selX (bitsB 0 n) l = [] := by
  induction n with
  | zero => intro l; simp [bitsB, selX]
  | succ n ih =>
    intro l
    cases l with
    | nil => simp [bitsB, selX]
    | cons x t => simp [bitsB, selX, ih]
theorem BestN.start {l : List Lo} : BestN l 0 0 := by
  refine ⟨Nat.two_pow_pos _, ?_, fun c h => by omega⟩
  unfold memL
  rw [selX_zero]
  intro i hi
  simp at hi
theorem BestN.skip {l : List Lo} {k best : Nat} (h : BestN l k best) (hs : AccP (memL l k) → wsum (memL l k) < wsum (memL l best) ∨ (wsum (memL l k) = wsum (memL l best) ∧ (memL l best).length < (memL l k).length)) : BestN l (k + 1) best := by
  refine ⟨h.1, h.2.1, fun c hc ha => ?_⟩
  by_cases e : c = k
  · subst e
    rcases hs ha with h1 | ⟨h1, h2⟩
    · exact .inl h1
    · exact .inr ⟨h1, .inl h2⟩
  · exact h.2.2 c (by omega) ha
theorem BestN.take {l : List Lo} {k best : Nat} (h : BestN l k best) (hk : k < 2 ^ l.length) (ha : AccP (memL l k)) (hle : wsum (memL l best) ≤ wsum (memL l k)) (hn : wsum (memL l k) = wsum (memL l best) → (memL l k).length ≤ (memL l best).length) : BestN l (k + 1) k := by
  refine ⟨hk, ha, fun c hc hac => ?_⟩
  by_cases e : c = k
  · subst e; exact .inr ⟨rfl, .inr ⟨rfl, Nat.le_refl _⟩⟩
  · rcases h.2.2 c (by omega) hac with h1 | ⟨h1, h2⟩
    · exact .inl (by omega)
    · by_cases e2 : wsum (memL l k) = wsum (memL l best)
      · have h3 := hn e2
        refine .inr ⟨by omega, ?_⟩
        omega
      · exact .inl (by omega)
end Go.Proofs.Ytijimplcjaeneaa



/- The reference's Chosen and Before. -/
namespace Go.Proofs.Ytijimplcjaeneaa
open Go.AI
set_option maxRecDepth 100000 in
theorem eqInts_spec [Orc] {B : Nat} {H : Heap} {av bv : Value} {a b : List Int} (hB : B ≤ H.n) (ha : Ints H av a) (hb : Ints H bv b) (hn : a.length < 1000000) :
    CallB Try.prog B 37 [av, bv] H (fun v H' => v = .bool (decide (a = b)) ∧ Keep H H') := by
  refine CV.enter callees false (Orc.hv rfl rfl) Try.func37 rfl (by kernel_rfl) (Nat.le_of_ble_eq_true rfl) hB ?_ (Orc.hw rfl rfl)
  by_cases hl : a.length = b.length
  · repeat' first
      | refine CO.cons rfl ?_
      | refine CO.nil ?_
      | refine CV.seq ?_
      | refine CV.region callees ?_
      | refine CV.cond ?_
      | refine CV.block ?_
      | refine CV.skip ?_
      | refine ⟨_, ints_len (by assumption), ?_⟩
      | (refine ⟨fun _ => ?_, fun _ => ?_⟩ <;> first | (exfalso; omega) | skip)
      | fail
    refine CV.loopc ?_
    refine WCv.rounds callees false (α := Nat) (fun i => [(0, av), (1, bv), (5, VI i)]) (fun i Hz => i ≤ a.length ∧ (∀ j, j < i → a[j]! = b[j]!) ∧ Keep H Hz) (fun i => a.length - i) (0) (by repeat' first | exact trivial | refine ⟨rfl, ?_⟩ | refine ⟨slot_int (by (try simp only [Int.toNat_natCast]); omega), ?_⟩) ?_ ?_
    · exact ⟨by omega, fun j hj => by omega, Keep.refl _⟩
    rintro i Hx ⟨hi, hw, kx⟩ hBx
    have hax : Ints Hx av a := Row.keep ha kx
    have hbx : Ints Hx bv b := Row.keep hb kx
    by_cases hi2 : i < a.length
    · have hai : a[(i : Int).toNat]! = a[i]! := rfl
      have hbi : b[(i : Int).toNat]! = b[i]! := rfl
      by_cases e : a[i]! = b[i]!
      · repeat' first
          | refine CO.cons rfl ?_
          | refine CO.nil ?_
          | refine CV.seq ?_
          | refine CV.region callees ?_
          | refine CV.cond ?_
          | refine CV.block ?_
          | refine CV.skip ?_
          | refine CV.draw callees (by decide +kernel) ?_
          | refine CH.cons rfl ?_
          | refine CH.nil ?_
          | refine ⟨_, ints_len (by assumption), ?_⟩
          | refine ⟨_, ints_addr (by assumption) (by omega) (by omega), ?_⟩
          | refine ⟨_, ints_load (by assumption) (by omega) (by omega), ?_⟩
          | refine ⟨(⟨by omega, by omega⟩ : inI64 _), ?_⟩
          | (refine ⟨fun _ => ?_, fun _ => ?_⟩ <;> first | (exfalso; omega) | skip)
          | fail
        refine ⟨(i + 1), (by repeat' first | exact trivial | refine ⟨rfl, ?_⟩ | refine ⟨slot_int (by (try simp only [Int.toNat_natCast]); omega), ?_⟩), (by (try dsimp only); omega), ?_⟩
        refine ⟨by omega, fun j hj => ?_, kx⟩
        by_cases c : j = i
        · rw [c]; exact e
        · exact hw j (by omega)
      · have hne : ¬ a = b := fun h => e (by rw [h])
        rw [decide_eq_false hne]
        repeat' first
          | refine CO.cons rfl ?_
          | refine CO.nil ?_
          | refine CV.seq ?_
          | refine CV.region callees ?_
          | refine CV.cond ?_
          | refine CV.block ?_
          | refine CV.skip ?_
          | refine CV.ret ?_
          | refine CV.draw callees (by decide +kernel) ?_
          | refine CH.cons rfl ?_
          | refine CH.nil ?_
          | refine ⟨_, ints_len (by assumption), ?_⟩
          | refine ⟨_, ints_addr (by assumption) (by omega) (by omega), ?_⟩
          | refine ⟨_, ints_load (by assumption) (by omega) (by omega), ?_⟩
          | (refine ⟨fun _ => ?_, fun _ => ?_⟩ <;> first | (exfalso; omega) | skip)
          | fail
        exact ⟨rfl, rfl, kx⟩
    obtain rfl : i = a.length := by omega
    have heq : a = b := by
      apply List.ext_getElem hl
      intro j h1 h2
      have := hw j h1
      rw [getElem!_pos a j h1, getElem!_pos b j h2] at this
      exact this
    rw [decide_eq_true heq]
    repeat' first
      | refine CO.cons rfl ?_
      | refine CO.nil ?_
      | refine CV.seq ?_
      | refine CV.region callees ?_
      | refine CV.cond ?_
      | refine CV.exit ?_
      | refine CV.ret ?_
      | refine ⟨_, ints_len (by assumption), ?_⟩
      | (refine ⟨fun _ => ?_, fun _ => ?_⟩ <;> first | (exfalso; omega) | skip)
      | fail
    exact ⟨rfl, rfl, kx⟩
  · have hne : ¬ a = b := fun h => hl (by rw [h])
    rw [decide_eq_false hne]
    repeat' first
      | refine CO.cons rfl ?_
      | refine CO.nil ?_
      | refine CV.seq ?_
      | refine CV.region callees ?_
      | refine CV.cond ?_
      | refine CV.ret ?_
      | refine ⟨_, ints_len (by assumption), ?_⟩
      | (refine ⟨fun _ => ?_, fun _ => ?_⟩ <;> first | (exfalso; omega) | skip)
      | fail
    exact ⟨rfl, rfl, Keep.refl _⟩
end Go.Proofs.Ytijimplcjaeneaa

