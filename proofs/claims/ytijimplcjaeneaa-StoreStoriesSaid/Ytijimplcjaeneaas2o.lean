
/- The law's stories: what tell says. -/
import Derived.Test.Ytijimplcjaeneaas1o
import Derived.Test.Ytijimplcjaeneaan1o
import Derived.Test.Ytijimplcjaeneaai9o
set_option linter.unusedVariables false
set_option linter.unusedSimpArgs false
namespace Go.Proofs.Ytijimplcjaeneaa
open Go.AI
abbrev tT : TypeId := 87
abbrev bbT : TypeId := 88
theorem foT0 : fieldOff Try.prog tT 0 = some (0, 2) := by kernel_rfl
theorem foT1 : fieldOff Try.prog tT 1 = some (2, 1) := by kernel_rfl
theorem foT2 : fieldOff Try.prog tT 2 = some (3, 1) := by kernel_rfl
theorem agBB : isAggB Try.prog 85 = some false := by kernel_rfl
theorem unBB : Try.prog.underlying 85 = some (.slice bbT) := by kernel_rfl
theorem agB1 : isAggB Try.prog bbT = some false := by kernel_rfl
theorem szB1 : sizeB Try.prog bbT = some 1 := by kernel_rfl
abbrev Tol (a b : Int) (lv hv : Value) : List Value := [VI a, VI b, lv, hv]
/-- A table of marks, day by day. -/
structure HTab (X : Heap) (hv : Value) (rv : List Value) (M : Nat → List Int) (A0 A1 : Nat) : Prop where
  row : Own bbT X hv rv A0
  lh : ∀ c, blkOf hv = some c → c < A1
  n : rv.length = 30
  own : ∀ d, d < 30 → Own bT X rv[d]! (TV (M d)) A0
  lt : ∀ d, d < 30 → ∀ c, blkOf rv[d]! = some c → c < A1
  ap : ∀ d e, d < 30 → e < 30 → d ≠ e → ∀ c, blkOf rv[d]! = some c → blkOf rv[e]! ≠ some c
theorem HTab.keep {X X' : Heap} {hv : Value} {rv : List Value} {M : Nat → List Int} {A0 A1 : Nat} (h : HTab X hv rv M A0 A1) (k : Keep X X') : HTab X' hv rv M A0 A1 := ⟨h.row.keep k, h.lh, h.n, fun d hd => (h.own d hd).keep k, h.lt, h.ap⟩
theorem HTab.same {X X' : Heap} {hv : Value} {rv : List Value} {M : Nat → List Int} {A0 A1 : Nat} (h : HTab X hv rv M A0 A1) (hn : X.n ≤ X'.n) (k : ∀ c, c < X.n → A0 ≤ c → c < A1 → X'.get c = X.get c) : HTab X' hv rv M A0 A1 :=
  ⟨own_keepF h.row hn fun c hc => k c (h.row.lt hc).2 (h.row.lt hc).1 (h.lh c hc), h.lh, h.n, fun d hd => own_keepF (h.own d hd) hn fun c hc => k c ((h.own d hd).lt hc).2 ((h.own d hd).lt hc).1 (h.lt d hd c hc), h.lt, h.ap⟩
theorem HTab.congr {X : Heap} {hv : Value} {rv : List Value} {M N : Nat → List Int} {A0 A1 : Nat} (h : HTab X hv rv M A0 A1) (e : ∀ d, d < 30 → M d = N d) : HTab X hv rv N A0 A1 := ⟨h.row, h.lh, h.n, fun d hd => by rw [← e d hd]; exact h.own d hd, h.lt, h.ap⟩
theorem HTab.put {K : Heap → Prop} {B d A0 A1 : Nat} {x : Int} {X : Heap} {hv : Value} {rv : List Value} {M : Nat → List Int} (h : HTab X hv rv M A0 A1) (hB : B ≤ A0) (hd : d < 30) (h0 : -1 ≤ x) (h1 : x ≤ 19)
    (hk : ∀ X', HTab X' hv rv (fun e => if e = d then x :: M e else M e) A0 A1 → KeepBut rv[d]! X X' → K X') : ∃ H' b, astore Try.prog bT X (.bool true) (elemAt rv[d]! (x + 1).toNat) = some (H', b) ∧ B ≤ b ∧ K H' := by
  refine tab_put (h.own d hd) hB h0 h1 fun X' ho kb => hk X' ⟨?_, h.lh, h.n, fun e he => ?_, h.lt, h.ap⟩ kb
  · exact own_keepF h.row kb.le fun c hc => kb.get c (h.row.lt hc).2 fun h' => own_ne (by decide) (h.own d hd) h.row c h' hc
  · by_cases hed : e = d
    · subst hed
      rw [if_pos rfl]; exact ho
    · rw [if_neg hed]
      exact own_keepF (h.own e he) kb.le fun c hc => kb.get c ((h.own e he).lt hc).2 (h.ap e d he hd hed c hc)
/-- What stays. -/
structure Fr (A0 A1 A2 A3 : Nat) (X X' : Heap) : Prop where
  le : X.n ≤ X'.n
  get : ∀ c, c < X.n → (c < A0 ∨ (A1 ≤ c ∧ c < A2) ∨ A3 ≤ c) → X'.get c = X.get c
theorem Fr.refl {A0 A1 A2 A3 : Nat} {X : Heap} : Fr A0 A1 A2 A3 X X := ⟨Nat.le_refl _, fun _ _ _ => rfl⟩
theorem Fr.trans {A0 A1 A2 A3 : Nat} {X Y Z : Heap} (h : Fr A0 A1 A2 A3 X Y) (k : Fr A0 A1 A2 A3 Y Z) : Fr A0 A1 A2 A3 X Z := ⟨Nat.le_trans h.le k.le, fun c hc hp => (k.get c (Nat.lt_of_lt_of_le hc h.le) hp).trans (h.get c hc hp)⟩
theorem Fr.of {A0 A1 A2 A3 : Nat} {X Y : Heap} (k : Keep X Y) : Fr A0 A1 A2 A3 X Y := ⟨k.1, fun c hc _ => k.2 c hc⟩
theorem Fr.row {A0 A1 A2 A3 : Nat} {X Y : Heap} {v : Value} {vs : List Value} (h : Row X v vs) (k : Fr A0 A1 A2 A3 X Y) (ha : ∀ c, blkOf v = some c → (c < A0 ∨ (A1 ≤ c ∧ c < A2) ∨ A3 ≤ c)) : Row Y v vs := by
  rcases h with h | h | ⟨b, i, c, cs, e, kd, rfl, h2, h3, h4⟩
  · exact .inl h
  · exact .inr (.inl h)
  · exact .inr (.inr ⟨b, i, c, cs, e, kd, rfl, Nat.lt_of_lt_of_le h2 k.le, by rw [k.get b h2 (ha b rfl)]; exact h3, h4⟩)
theorem Fr.rowS {A0 A1 A2 A3 s : Nat} {X Y : Heap} {v : Value} {rs : List (List Value)} (h : RowS s X v rs) (k : Fr A0 A1 A2 A3 X Y) (ha : ∀ c, blkOf v = some c → (c < A0 ∨ (A1 ≤ c ∧ c < A2) ∨ A3 ≤ c)) : RowS s Y v rs := by
  refine ⟨h.1, ?_⟩
  rcases h.2 with h | h | ⟨b, i, c, cs, e, kd, rfl, h2, h3, h4⟩
  · exact .inl h
  · exact .inr (.inl h)
  · exact .inr (.inr ⟨b, i, c, cs, e, kd, rfl, Nat.lt_of_lt_of_le h2 k.le, by rw [k.get b h2 (ha b rfl)]; exact h3, h4⟩)
/-- What is told so far, as it lies in memory. -/
structure Told (X : Heap) (bt : Nat) (lv hv : Value) (rv : List Value) (T : DSt × (Nat → List Int)) (A0 A1 A2 A3 n : Nat) : Prop where
  c : X.get bt = some (.cells (Tol T.1.1.1 T.1.1.2 lv hv) tT 1)
  l : OwnSp X lv T.1.2 A2
  ll : ∀ c, blkOf lv = some c → c < A3
  h : HTab X hv rv T.2 A0 A1
  n : T.1.2.length = n
  b : A2 ≤ bt ∧ bt < A3 ∧ A3 ≤ X.n
theorem Told.keep {X X' : Heap} {bt : Nat} {lv hv : Value} {rv : List Value} {T : DSt × (Nat → List Int)} {A0 A1 A2 A3 n : Nat} (h : Told X bt lv hv rv T A0 A1 A2 A3 n) (k : Keep X X') : Told X' bt lv hv rv T A0 A1 A2 A3 n :=
  ⟨(k.2 bt (by have := h.b; omega)).trans h.c, OwnS.keep h.l k, h.ll, h.h.keep k, h.n, ⟨h.b.1, h.b.2.1, Nat.le_trans h.b.2.2 k.1⟩⟩
/-- What one story more says. -/
def updT (E : List Ev) (T : DSt × (Nat → List Int)) (s : List Int) : DSt × (Nat → List Int) := (stoU E T.1 s, fun d => hoS E s (d : Int) (-1) :: T.2 d)
def lastD (D : List Int) : Int := if D.length = 0 then -1 else D[D.length - 1]!
/-- All stories that begin so. -/
def stoX (E : List Ev) (D : List Int) : List (List Int) := (stoF (E.drop D.length) (lastD D)).map (D ++ ·)
theorem lastD_snoc {D : List Int} {d : Int} : lastD (D ++ [d]) = d := by
  unfold lastD
  rw [if_neg (by simp), getElem!_pos _ _ (by simp)]
  simp
theorem stoX_nil {E : List Ev} {D : List Int} (h : D.length = E.length) : stoX E D = [D] := by
  unfold stoX
  rw [List.drop_of_length_le (by omega)]
  simp [stoF]
theorem stoX_cons {E : List Ev} {D : List Int} (h : D.length < E.length) : stoX E D = (List.range (E[D.length]!.hi - E[D.length]!.lo + 1).toNat).flatMap fun (i : Nat) => if lastD D < E[D.length]!.lo + (i : Int) then stoX E (D ++ [E[D.length]!.lo + (i : Int)]) else [] := by
  unfold stoX
  rw [dr_ats h, stoF, rangeI, List.map_flatMap, List.flatMap_map]
  refine flat_congr fun i _ => ?_
  split
  · rw [List.map_map, List.length_append, List.length_singleton, lastD_snoc]
    apply List.map_congr_left
    intro r _
    simp
  · rfl
theorem stoX_start {E : List Ev} : stoX E [] = stoF E (-1) := by
  unfold stoX
  simp [lastD]
def stoP (E : List Ev) (D : List Int) (k : Nat) : List (List Int) := (List.range k).flatMap fun (i : Nat) => if lastD D < E[D.length]!.lo + (i : Int) then stoX E (D ++ [E[D.length]!.lo + (i : Int)]) else []
theorem stoP_succ {E : List Ev} {D : List Int} {k : Nat} : stoP E D (k + 1) = stoP E D k ++ if lastD D < E[D.length]!.lo + (k : Int) then stoX E (D ++ [E[D.length]!.lo + (k : Int)]) else [] := by
  unfold stoP
  rw [List.range_succ, List.flatMap_append]
  simp
theorem stoE_len : ∀ {E : List Ev} {s : List Int}, E.length = s.length → (stoE E s).length = s.length
  | [], [], _ => rfl
  | _ :: t, _ :: r, h => by
    rw [stoE, List.length_cons, List.length_cons, stoE_len (by simpa using h)]
theorem stoE_at : ∀ {E : List Ev} {s : List Int} {j : Nat}, j < E.length → j < s.length → (stoE E s)[j]! = ⟨E[j]!.k, E[j]!.o, s[j]!, s[j]!⟩
  | e :: t, d :: r, 0, _, _ => rfl
  | e :: t, d :: r, j + 1, h1, h2 => by
    rw [stoE, List.getElem!_cons_succ, List.getElem!_cons_succ, List.getElem!_cons_succ]
    exact stoE_at (by simpa using h1) (by simpa using h2)
theorem hoS_bd {x : Int} : ∀ {E : List Ev} {s : List Int} {h : Int}, (∀ e ∈ E, 0 ≤ e.o ∧ e.o ≤ 19) → (-1 ≤ h ∧ h ≤ 19) → -1 ≤ hoS E s x h ∧ hoS E s x h ≤ 19
  | [], _, _, _, hh => hh
  | _ :: _, [], _, _, hh => hh
  | e :: t, d :: r, h, hE, hh => by
    rw [hoS]
    split
    · exact hh
    · have := hE e (by simp)
      exact hoS_bd (fun f hf => hE f (by simp [hf])) ⟨by omega, this.2⟩
theorem stTo {H : Heap} {b : Nat} {a c x y : Int} {lv hv : Value} (hg : H.get b = some (.cells (Tol a c lv hv) tT 1)) : astore Try.prog sT H (Spv x y) (.pointer (some ⟨b, 0 + 0, none⟩)) = some (H.set b (.cells (Tol x y lv hv) tT 1), b) := by
  show astore Try.prog sT H (Value.agg [VI x, VI y].toArray) _ = _
  have h1 : (Value.agg [VI x, VI y].toArray).cells = [VI x, VI y].toArray := rfl
  simp only [astore, hg, h1, szSp, spliceQ_eq]
  rw [if_pos ⟨by simp, by show 0 + 0 + 2 ≤ 4; omega, rfl, by rfl⟩]
  rfl
theorem raw_at {mk lo hi : Int} {ls : List Lk} {o : List Int} {n : Nat} (hls : LsOk ls) (h0 : 0 ≤ lo) (h1 : hi ≤ 100000) (ho : ∀ k ∈ o, 0 ≤ k ∧ k < ls.length) (hn : n < o.length + 1) : 0 ≤ (raw mk lo hi ls o)[n]!.lo ∧ (raw mk lo hi ls o)[n]!.hi ≤ 100000 := by
  cases n with
  | zero => exact ⟨h0, h1⟩
  | succ j =>
    have hj : j < o.length := by omega
    rw [raw_succ hj]
    have hk := ho o[j]! (by rw [getElem!_pos o j hj]; exact List.getElem_mem _)
    have := hls.lo (o[j]!).toNat (by omega)
    have := hls.hi (o[j]!).toNat (by omega)
    simp only
    omega
set_option maxHeartbeats 64000000 in
set_option maxRecDepth 100000 in
theorem tell_spec {B A0 A1 A2 A3 bt : Nat} {mk lo hi : Int} {sv ov lv hv : Value} {rv : List Value} {ls : List Lk} {o : List Int} (hB : B ≤ A0) (h01 : A0 ≤ A1) (h12 : A1 ≤ A2) (hls : LsOk ls) (hlo : 0 ≤ lo) (hhi : hi ≤ 100000) (hlh : lo ≤ 100000)
    (hok : ∀ k ∈ o, 0 ≤ k ∧ k < ls.length) (hon : o.length ≤ 7) (hmk : 0 ≤ mk ∧ mk ≤ 19) (hto : ∀ z, z < ls.length → 0 ≤ ls[z]!.t ∧ ls[z]!.t ≤ 19) (hsv : ∀ c, blkOf sv = some c → c < A0) (hov : ∀ c, blkOf ov = some c → A1 ≤ c ∧ c < A2) :
    ∀ (r : Nat) (D : List Int) (dv : Value) (T : DSt × (Nat → List Int)) (X : Heap), D.length + r = o.length + 1 → (D.length = 0 ∨ (0 ≤ lastD D ∧ lastD D ≤ 100000)) → RowS 4 X sv (ls.map Lkl) → Ints X ov o → Ints X dv D → (∀ c, blkOf dv = some c → A3 ≤ c) → Told X bt lv hv rv T A0 A1 A2 A3 ls.length →
    CallB Try.prog B 63 [Chv mk lo hi sv, ov, dv, .pointer (some ⟨bt, 0, none⟩)] X
      (fun _ X' => Told X' bt lv hv rv ((stoX (raw mk lo hi ls o) D).foldl (updT (raw mk lo hi ls o)) T) A0 A1 A2 A3 ls.length ∧ Fr A0 A1 A2 A3 X X') := by
  have hEl : (raw mk lo hi ls o).length = o.length + 1 := raw_len
  intro r
  induction r with
  | zero =>
    intro D dv T X hDr hDl hr ho hd hdv hT
    have hBX : B ≤ X.n := by have := hT.b; omega
    rw [stoX_nil (by omega), List.foldl_cons, List.foldl_nil]
    have hDn : D.length = o.length + 1 := by omega
    have hd0 : D[(0 : Int).toNat]! = D[0]! := rfl
    obtain ⟨hb1, hb2, hb3⟩ := hT.b
    have hSl := stoE_len (E := raw mk lo hi ls o) (s := D) (by omega)
    have hSa := fun (j : Nat) (hj : j < o.length + 1) => stoE_at (E := raw mk lo hi ls o) (s := D) (j := j) (by omega) (by omega)
    have hhb := fun (x : Int) => hoS_bd (x := x) (E := raw mk lo hi ls o) (s := D) (h := -1) (fun e he => by
      rcases List.mem_cons.1 he with rfl | he
      · exact hmk
      · obtain ⟨k, hk, rfl⟩ := List.mem_map.1 he
        have := hok k hk
        exact hto k.toNat (by omega)) (by omega)
    refine CV.enter callees false rfl Try.func63 rfl (by kernel_rfl) (Nat.le_of_ble_eq_true rfl) hBX ?_
    repeat' first
      | refine CO.cons rfl ?_
      | refine CV.seq ?_
      | refine CV.region callees ?_
      | fail
    refine ⟨(by simp only [notTuple]), ?_⟩
    rw [boxCh hr.cells.1]
    generalize hs0 : Heap.new X _ = H0
    have hg0 := new_get hs0
    have k0 := new_keep hs0
    have n0 := new_n hs0
    obtain ⟨b0, hbn0⟩ : ∃ b, Heap.n X = b := ⟨_, rfl⟩
    rw [hbn0] at hg0 n0 ⊢
    have hr0 := hr.keep k0
    have ho0 : Ints H0 ov o := ho.keep k0
    have hd0' : Ints H0 dv D := hd.keep k0
    have hT0 := hT.keep k0
    repeat' first
      | refine CO.cons rfl ?_
      | refine CO.nil ?_
      | refine CV.seq ?_
      | refine CV.region callees ?_
      | refine CV.cond ?_
      | refine CV.draw callees (by decide +kernel) ?_
      | refine CH.cons rfl ?_
      | refine CH.nil ?_
      | refine ⟨_, ints_len (by assumption), ?_⟩
      | refine ⟨_, ints_addr (by assumption) (by omega) (by omega), ?_⟩
      | refine ⟨_, ints_load (by assumption) (by omega) (by omega), ?_⟩
      | refine ⟨(⟨by omega, by omega⟩ : inI64 _), ?_⟩
      | refine ⟨_, fun tm ha => step1_max rfl (ev_tmp ha rfl) (ev_tmp ha rfl), ?_⟩
      | refine ⟨_, fun tm ha => step1_min rfl (ev_tmp ha rfl) (ev_tmp ha rfl), ?_⟩
      | (refine ⟨_, (rfl : nilOk _ = some _), ?_⟩)
      | (refine ⟨_, fS foT0 (by decide), ?_⟩)
      | (refine ⟨_, fS foS0 (by decide), ?_⟩)
      | (refine ⟨_, fS foS1 (by decide), ?_⟩)
      | (refine ⟨_, cell_load ag3 hT0.c rfl, ?_⟩)
      | (refine ⟨_, buSp, ?_⟩)
      | (refine ⟨fun _ => ?_, fun _ => ?_⟩ <;> first | (exfalso; omega) | skip)
      | fail
    refine ⟨_, _, stTo hT0.c, by omega, ?_⟩
    generalize hs1 : Heap.set H0 bt _ = H1
    have hg1 : H1.get bt = some (.cells (Tol (min T.1.1.1 D[0]!) (max T.1.1.2 D[0]!) lv hv) tT 1) := set_get hs1
    have n1 := set_n hs1
    have o1 := set_old hs1
    have hp0 : putE T.1 (stoE (raw mk lo hi ls o) D)[0]! = ((min T.1.1.1 D[0]!, max T.1.1.2 D[0]!), T.1.2) := by
      rw [hSa 0 (by omega)]; exact putE_made rfl
    have ht1 : ((stoE (raw mk lo hi ls o) D).take (0 + 1)).foldl putE T.1 = ((min T.1.1.1 D[0]!, max T.1.1.2 D[0]!), T.1.2) := by
      rw [one_at (by omega), List.take_zero, List.nil_append, List.foldl_cons, List.foldl_nil, hp0]
    have hlvt : ∀ c, blkOf lv = some c → c ≠ bt := fun c hc h => by
      rcases hT0.l.2 with ⟨rfl, _⟩ | ⟨q, rfl, _, _, h4⟩
      · cases hc
      · cases hc
        have := hT0.c
        rw [← h, h4] at this
        have h5 := Option.some.inj this
        injection h5 with _ _ h6
        cases h6
    have hT1 : Told H1 bt lv hv rv (((stoE (raw mk lo hi ls o) D).take (0 + 1)).foldl putE T.1, T.2) A0 A1 A2 A3 ls.length := by
      rw [ht1]
      exact ⟨hg1, own_keepFS hT0.l (by omega) fun c hc => o1 c (hlvt c hc), hT0.ll, hT0.h.same (by omega) fun c _ _ hc => o1 c (by omega), hT0.n, ⟨hb1, hb2, by have := hT0.b; omega⟩⟩
    have fr1 : Fr A0 A1 A2 A3 H0 H1 := ⟨by omega, fun c _ hc => o1 c (by omega)⟩
    have hf0 : A3 ≤ b0 := by omega
    clear hT
    repeat' first
      | refine CO.cons rfl ?_
      | refine CO.nil ?_
      | refine CV.seq ?_
      | refine CV.region callees ?_
      | refine CV.block ?_
      | refine CH.nil ?_
      | fail
    refine CV.loopc ?_
    refine WCv.rounds callees false (α := Nat) (fun i => [(1, ov), (2, dv), (3, .pointer (some ⟨bt, 0, none⟩)), (4, .pointer (some ⟨b0, 0, none⟩)), (8, VI i)]) (fun i Hz => i ≤ o.length ∧ Told Hz bt lv hv rv (((stoE (raw mk lo hi ls o) D).take (i + 1)).foldl putE T.1, T.2) A0 A1 A2 A3 ls.length ∧ Fr A0 A1 A2 A3 H0 Hz) (fun i => o.length - i) (0) (by repeat' first | exact trivial | refine ⟨rfl, ?_⟩ | refine ⟨slot_int (by (try simp only [Int.toNat_natCast]); omega), ?_⟩) ?_ ?_
    · exact ⟨by omega, hT1, fr1⟩
    clear hT1 fr1
    rintro i Hx ⟨hi', hTx, frx⟩ hBx
    have lx := frx.le
    have hox : Ints Hx ov o := frx.row ho0 fun c hc => .inr (.inl (hov c hc))
    have hdx : Ints Hx dv D := frx.row hd0' fun c hc => .inr (.inr (hdv c hc))
    have hcx := (frx.get b0 (by omega) (.inr (.inr hf0))).trans hg0
    by_cases hi2 : i < o.length
    · have hki := hok o[i]! (by rw [getElem!_pos o i hi2]; exact List.getElem_mem _)
      obtain ⟨z, hz⟩ : ∃ z : Nat, o[i]! = (z : Int) := ⟨(o[i]!).toNat, by omega⟩
      obtain ⟨st, hst⟩ : ∃ st, ((stoE (raw mk lo hi ls o) D).take (i + 1)).foldl putE T.1 = st := ⟨_, rfl⟩
      rw [hst] at hTx
      have hsl : st.2.length = ls.length := hTx.n
      have hzl : z < st.2.length := by omega
      have hDi : D[((i : Int) + 1).toNat]! = D[i + 1]! := by congr 1
      have hnew : ((stoE (raw mk lo hi ls o) D).take (i + 1 + 1)).foldl putE T.1 = (st.1, st.2.set z (min (st.2[z]!).1 D[i + 1]!, max (st.2[z]!).2 D[i + 1]!)) := by
        rw [one_at (by omega), List.foldl_append, hst, List.foldl_cons, List.foldl_nil, hSa (i + 1) (by omega), raw_succ hi2]
        exact putE_link hz
      obtain ⟨q, rfl, q1, q2, q3⟩ : ∃ q, lv = .slice (some ⟨q, 0, none⟩) ls.length 0 ∧ A2 ≤ q ∧ q < Hx.n ∧ Hx.get q = some (.cells (SpC st.2) sT 2) := by
        rcases hTx.l.2 with ⟨_, h⟩ | ⟨q, h1, h2, h3, h4⟩
        · rw [List.map_eq_nil_iff] at h
          have : st.2.length = 0 := by rw [show st.2 = [] from h]; rfl
          omega
        · exact ⟨q, by rw [h1, List.length_map, hsl], h2, h3, h4⟩
      have hq3 := hTx.ll q rfl
      have hbq : bt ≠ q := fun h => (hlvt q rfl) h.symm
      have hadr : aindexAddr Try.prog sS (.slice (some ⟨q, 0, none⟩) ls.length 0) (.int .i64 o[(i : Int).toNat]!) = some (.pointer (some ⟨q, z * 2, none⟩)) := by
        show aindexAddr Try.prog sS _ (.int .i64 o[i]!) = _
        rw [hz]
        have := sp_adr (b := q) (n := ls.length) (c := 0) (i := (z : Int)) (by omega) (by omega)
        rwa [Int.toNat_natCast] at this
      have hc0 := spc_at0 hzl
      have hc1 := spc_at1 hzl
      repeat' first
        | refine CO.cons rfl ?_
        | refine CO.nil ?_
        | refine CV.seq ?_
        | refine CV.region callees ?_
        | refine CV.cond ?_
        | refine CV.block ?_
        | refine CV.skip ?_
        | refine CV.draw callees (by decide +kernel) ?_
        | refine CH.cons rfl ?_
        | refine CH.nil ?_
        | refine CR.cons ?_
        | refine ⟨_, ints_len (by assumption), ?_⟩
        | refine ⟨_, ints_addr (by assumption) (by omega) (by omega), ?_⟩
        | refine ⟨_, ints_load (by assumption) (by omega) (by omega), ?_⟩
        | refine ⟨(⟨by omega, by omega⟩ : inI64 _), ?_⟩
        | refine ⟨_, fun tm ha => step1_max rfl (ev_tmp ha rfl) (ev_tmp ha rfl), ?_⟩
        | refine ⟨_, fun tm ha => step1_min rfl (ev_tmp ha rfl) (ev_tmp ha rfl), ?_⟩
        | (refine ⟨_, (rfl : nilOk _ = some _), ?_⟩)
        | (refine ⟨_, fS foT1 (by decide), ?_⟩)
        | (refine ⟨_, cell_load agSs hTx.c rfl, ?_⟩)
        | (refine ⟨_, hadr, ?_⟩)
        | refine CV.wideR callees (by decide +kernel) [(0, []), (1, []), (2, []), (3, []), (4, []), (5, []), (6, []), (7, []), (8, []), (9, []), (10, []), (11, []), (12, []), (13, []), (14, []), (15, []), (16, []), (17, []), (18, []), (19, []), (20, []), (21, []), (22, []), (23, []), (24, [21]), (25, []), (26, []), (27, [])] (by kernel_rfl) ?_
        | (refine ⟨_, fS foS0 (by decide), ?_⟩)
        | (refine ⟨_, fS foS1 (by decide), ?_⟩)
        | (refine ⟨_, cell_load ag3 q3 hc0, ?_⟩)
        | (refine ⟨_, cell_load ag3 q3 hc1, ?_⟩)
        | (refine ⟨fun _ => ?_, fun _ => ?_⟩ <;> first | (exfalso; omega) | skip)
        | fail
      refine ⟨_, _, store_row (i := z * 2 + 0) sz3 q3 (by rw [spc_len]; omega) rfl, by omega, ?_⟩
      rw [hDi, spc_set0 hzl]
      generalize hs6 : Heap.set Hx q _ = H6
      have hg6 : H6.get q = some (.cells (SpC (st.2.set z (min (st.2[z]!).1 D[i + 1]!, (st.2[z]!).2))) sT 2) := set_get hs6
      have n6 := set_n hs6
      have o6 := set_old hs6
      have hzl6 : z < (st.2.set z (min (st.2[z]!).1 D[i + 1]!, (st.2[z]!).2)).length := by rw [List.length_set]; exact hzl
      repeat' first
        | refine CR.cons ?_
        | refine ⟨_, fun tm ha => step1_max rfl (ev_tmp ha rfl) (ev_tmp ha rfl), ?_⟩
        | (refine ⟨(rfl : _ = VI _), ?_⟩)
        | (refine ⟨same_int, ?_⟩)
        | (refine ⟨_, (rfl : nilOk _ = some _), ?_⟩)
        | (refine ⟨_, fS foS1 (by decide), ?_⟩)
        | fail
      refine ⟨_, _, store_row (i := z * 2 + 1) sz3 hg6 (by rw [spc_len]; omega) rfl, by omega, ?_⟩
      have hfin : (SpC (st.2.set z (min (st.2[z]!).1 D[i + 1]!, (st.2[z]!).2))).set (z * 2 + 1) (VI (max (st.2[z]!).2 D[i + 1]!)) = SpC (st.2.set z (min (st.2[z]!).1 D[i + 1]!, max (st.2[z]!).2 D[i + 1]!)) := by
        rw [spc_set1 hzl6, List.set_set]
        rw [getElem!_pos _ z hzl6, List.getElem_set_self]
      rw [hfin]
      generalize hs7 : Heap.set H6 q _ = H7
      have hg7 : H7.get q = some (.cells (SpC (st.2.set z (min (st.2[z]!).1 D[i + 1]!, max (st.2[z]!).2 D[i + 1]!))) sT 2) := set_get hs7
      have n7 := set_n hs7
      have o7 := set_old hs7
      have o67 : ∀ c, c ≠ q → H7.get c = Hx.get c := fun c hc => (o7 c hc).trans (o6 c hc)
      repeat' first
        | refine CO.cons rfl ?_
        | refine CO.nil ?_
        | refine CV.region callees ?_
        | refine CR.nil ?_
        | refine ⟨(⟨by omega, by omega⟩ : inI64 _), ?_⟩
        | fail
      refine ⟨(i + 1), (by repeat' first | exact trivial | refine ⟨rfl, ?_⟩ | refine ⟨slot_int (by (try simp only [Int.toNat_natCast]); omega), ?_⟩), (by (try dsimp only); omega), ?_⟩
      refine ⟨by omega, ?_, frx.trans ⟨by omega, fun c _ hc => o67 c (by omega)⟩⟩
      rw [hnew]
      exact ⟨(o67 bt hbq).trans hTx.c, ⟨spl_two, .inr ⟨q, by rw [List.length_map, List.length_set, hsl], q1, by omega, hg7⟩⟩, hTx.ll, hTx.h.same (by omega) fun c _ _ hc => o67 c (by omega), by rw [List.length_set]; exact hsl, ⟨hb1, hb2, by have := hTx.b; omega⟩⟩
    obtain rfl : i = o.length := by omega
    have htU : ((stoE (raw mk lo hi ls o) D).take (o.length + 1)).foldl putE T.1 = stoU (raw mk lo hi ls o) T.1 D := by
      rw [List.take_of_length_le (by omega)]; rfl
    rw [htU] at hTx
    repeat' first
      | refine CO.cons rfl ?_
      | refine CO.nil ?_
      | refine CV.seq ?_
      | refine CV.region callees ?_
      | refine CV.cond ?_
      | refine CV.block ?_
      | refine CV.exit ?_
      | refine ⟨_, ints_len (by assumption), ?_⟩
      | (refine ⟨fun _ => ?_, fun _ => ?_⟩ <;> first | (exfalso; omega) | skip)
      | fail
    refine CV.loopc ?_
    refine WCv.rounds callees false (α := Nat) (fun d => [(1, ov), (2, dv), (3, .pointer (some ⟨bt, 0, none⟩)), (4, .pointer (some ⟨b0, 0, none⟩)), (10, VI d)]) (fun d Hz => d ≤ 30 ∧ Told Hz bt lv hv rv (stoU (raw mk lo hi ls o) T.1 D, fun (e : Nat) => if e < d then hoS (raw mk lo hi ls o) D (e : Int) (-1) :: T.2 e else T.2 e) A0 A1 A2 A3 ls.length ∧ Fr A0 A1 A2 A3 H0 Hz) (fun d => 30 - d) (0) (by repeat' first | exact trivial | refine ⟨rfl, ?_⟩ | refine ⟨slot_int (by (try simp only [Int.toNat_natCast]); omega), ?_⟩) ?_ ?_
    · refine ⟨by omega, ⟨hTx.c, hTx.l, hTx.ll, hTx.h.congr fun e _ => ?_, hTx.n, hTx.b⟩, frx⟩
      dsimp only
      rw [if_neg (by omega)]
    clear hTx frx lx hox hdx hcx
    rintro d Hy ⟨hd', hTy, fry⟩ hBy
    have ly := fry.le
    have hoy : Ints Hy ov o := fry.row ho0 fun c hc => .inr (.inl (hov c hc))
    have hdy : Ints Hy dv D := fry.row hd0' fun c hc => .inr (.inr (hdv c hc))
    have hry := fry.rowS hr0 fun c hc => .inl (hsv c hc)
    have hcy := (fry.get b0 (by omega) (.inr (.inr hf0))).trans hg0
    have hlen : alen Try.prog Hy 85 hv = some (VI 30) := by
      have := hTy.h.row.row.alen unBB
      rw [hTy.h.n] at this
      exact this
    by_cases hd2 : d < 30
    · have had : aindexAddr Try.prog 85 hv (VI d) = some (elemAt hv d) := hTy.h.row.row.addr unBB szB1 (by omega) (by rw [hTy.h.n]; omega)
      have hld : ∀ Z, Keep Hy Z → aload Try.prog bbT Z (elemAt hv d) = some rv[d]! := fun Z k => (hTy.h.row.keep k).row.load agB1 (by rw [List.getElem?_eq_getElem (by rw [hTy.h.n]; exact hd2), getElem!_pos rv d (by rw [hTy.h.n]; exact hd2)])
      have hb := hhb (d : Int)
      repeat' first
        | refine CO.cons rfl ?_
        | refine CO.nil ?_
        | refine CV.seq ?_
        | refine CV.region callees ?_
        | refine CV.cond ?_
        | refine CV.block ?_
        | refine CV.skip ?_
        | refine CV.draw callees (by decide +kernel) ?_
        | refine CH.cons rfl ?_
        | (refine ⟨_, (rfl : nilOk _ = some _), ?_⟩)
        | (refine ⟨_, fS foT2 (by decide), ?_⟩)
        | (refine ⟨_, cell_load agBB hTy.c rfl, ?_⟩)
        | (refine ⟨_, hlen, ?_⟩)
        | (refine ⟨_, had, ?_⟩)
        | (refine ⟨_, hld _ (Keep.refl _), ?_⟩)
        | (refine ⟨_, ldCh hcy, ?_⟩)
        | (refine ⟨fun _ => ?_, fun _ => ?_⟩ <;> first | (exfalso; omega) | skip)
        | fail
      refine (holderOn_spec (Nat.le_refl _) hry hoy hdy hok hDn hon).mono ?_
      rintro w Hz ⟨rfl, kz⟩
      have hTz := hTy
      have hadd : aindexAddr Try.prog bbT rv[d]! (.int .i64 (hoS (raw mk lo hi ls o) D (d : Int) (-1) + 1)) = some (elemAt rv[d]! (hoS (raw mk lo hi ls o) D (d : Int) (-1) + 1).toNat) := tab_addr (hTz.h.own d hd2) (by omega) (by omega)
      repeat' first
        | refine CO.cons rfl ?_
        | refine CH.cons rfl ?_
        | refine CH.nil ?_
        | refine ⟨(rfl : plain _ = true), ?_⟩
        | refine ⟨(⟨by omega, by omega⟩ : inI64 _), ?_⟩
        | (refine ⟨_, hadd, ?_⟩)
        | fail
      refine hTz.h.put (by omega) hd2 hb.1 hb.2 ?_
      intro HW hHW kw
      have lw := kw.le
      have hrb : ∀ c, blkOf rv[d]! = some c → A0 ≤ c ∧ c < A1 := fun c hc => ⟨((hTz.h.own d hd2).lt hc).1, hTz.h.lt d hd2 c hc⟩
      have hbz := hTz.b
      have frw : Fr A0 A1 A2 A3 Hy HW := ⟨lw, fun c hc hp => kw.get c hc fun h => by have := hrb c h; omega⟩
      repeat' first
        | refine CO.cons rfl ?_
        | refine CO.nil ?_
        | refine CV.region callees ?_
        | refine CH.nil ?_
        | refine ⟨(⟨by omega, by omega⟩ : inI64 _), ?_⟩
        | fail
      refine ⟨(d + 1), (by repeat' first | exact trivial | refine ⟨rfl, ?_⟩ | refine ⟨slot_int (by (try simp only [Int.toNat_natCast]); omega), ?_⟩), (by (try dsimp only); omega), ?_⟩
      refine ⟨by omega, ⟨(kw.get bt (by omega) fun h => by have := hrb bt h; omega).trans hTz.c, own_keepFS hTz.l lw fun c hc => kw.get c (by have := hTz.ll c hc; omega) fun h => by have := hrb c h; have := (OwnS.lt hTz.l hc).1; omega, hTz.ll, hHW.congr fun e he => ?_, hTz.n, ⟨hb1, hb2, by omega⟩⟩, fry.trans frw⟩
      dsimp only
      by_cases hed : e = d
      · subst hed
        rw [if_pos rfl, if_neg (by omega), if_pos (by omega)]
      · rw [if_neg hed]
        by_cases h : e < d
        · rw [if_pos h, if_pos (by omega)]
        · rw [if_neg h, if_neg (by omega)]
    obtain rfl : d = 30 := by omega
    repeat' first
      | refine CO.cons rfl ?_
      | refine CO.nil ?_
      | refine CV.seq ?_
      | refine CV.region callees ?_
      | refine CV.cond ?_
      | refine CV.exit ?_
      | refine CV.ret ?_
      | (refine ⟨_, (rfl : nilOk _ = some _), ?_⟩)
      | (refine ⟨_, fS foT2 (by decide), ?_⟩)
      | (refine ⟨_, cell_load agBB hTy.c rfl, ?_⟩)
      | (refine ⟨_, hlen, ?_⟩)
      | (refine ⟨fun _ => ?_, fun _ => ?_⟩ <;> first | (exfalso; omega) | skip)
      | fail
    refine ⟨rfl, ⟨hTy.c, hTy.l, hTy.ll, hTy.h.congr fun e he => ?_, hTy.n, hTy.b⟩, (Fr.of k0).trans fry⟩
    dsimp only
    rw [if_pos he]
    rfl
  | succ r ih =>
    intro D dv T X hDr hDl hr ho hd hdv hT
    have hBX : B ≤ X.n := by have := hT.b; omega
    have hDn : D.length < o.length + 1 := by omega
    have hel : D.length < (raw mk lo hi ls o).length := by omega
    obtain ⟨hb1, hb2, hb3⟩ := hT.b
    have heb := raw_at (mk := mk) hls hlo hhi hok hDn
    have hDk : ∀ j, D.length = j + 1 → (raw mk lo hi ls o)[D.length]! = ⟨o[j]!, ls[(o[j]!).toNat]!.t, ls[(o[j]!).toNat]!.lo, ls[(o[j]!).toNat]!.hi⟩ := fun j hj => by
      rw [hj]; exact raw_succ (by omega)
    have hD0 : D.length = 0 → (raw mk lo hi ls o)[D.length]! = ⟨-1, mk, lo, hi⟩ := fun h => by rw [h]; rfl
    obtain ⟨m, hm⟩ : ∃ m, ((raw mk lo hi ls o)[D.length]!.hi - (raw mk lo hi ls o)[D.length]!.lo + 1).toNat = m := ⟨_, rfl⟩
    have hcons : stoX (raw mk lo hi ls o) D = stoP (raw mk lo hi ls o) D m := by rw [stoX_cons hel, hm]; rfl
    rw [hcons]
    have hsucc := fun (k : Nat) => stoP_succ (E := raw mk lo hi ls o) (D := D) (k := k)
    generalize raw mk lo hi ls o = E at *
    obtain ⟨e, he⟩ : ∃ e, E[D.length]! = e := ⟨_, rfl⟩
    rw [he] at heb hDk hD0 hm hsucc
    refine CV.enter callees false rfl Try.func63 rfl (by kernel_rfl) (Nat.le_of_ble_eq_true rfl) hBX ?_
    repeat' first
      | refine CO.cons rfl ?_
      | refine CV.seq ?_
      | refine CV.region callees ?_
      | fail
    refine ⟨(by simp only [notTuple]), ?_⟩
    rw [boxCh hr.cells.1]
    generalize hs0 : Heap.new X _ = H0
    have hg0 := new_get hs0
    have k0 := new_keep hs0
    have n0 := new_n hs0
    obtain ⟨b0, hbn0⟩ : ∃ b, Heap.n X = b := ⟨_, rfl⟩
    rw [hbn0] at hg0 n0 ⊢
    have hr0 := hr.keep k0
    have ho0 : Ints H0 ov o := ho.keep k0
    have hd0 : Ints H0 dv D := hd.keep k0
    repeat' first
      | refine CO.cons rfl ?_
      | refine CO.nil ?_
      | refine CV.seq ?_
      | refine CV.region callees ?_
      | refine CV.cond ?_
      | refine CV.skip ?_
      | refine ⟨_, ints_len (by assumption), ?_⟩
      | refine ⟨(⟨by omega, by omega⟩ : inI64 _), ?_⟩
      | (refine ⟨_, fS foC1 (by decide), ?_⟩)
      | (refine ⟨_, ldChS hg0, ?_⟩)
      | (refine ⟨_, _, alSp, ?_⟩)
      | (refine ⟨fun _ => ?_, fun _ => ?_⟩ <;> first | (exfalso; omega) | skip)
      | fail
    generalize hs1 : Heap.new H0 _ = H1
    have hg1 := new_get hs1
    have k1 := new_keep hs1
    have n1 := new_n hs1
    obtain ⟨b1, hbn1⟩ : ∃ b, Heap.n H0 = b := ⟨_, rfl⟩
    rw [hbn1] at hg1 n1 ⊢
    repeat' first
      | fail
    refine ⟨_, _, stSp hg1, by omega, ?_⟩
    generalize hs2 : Heap.set H1 b1 _ = H2
    have hg2 : H2.get b1 = some (.cells ([VI lo, VI hi]) sT 1) := set_get hs2
    have n2 := set_n hs2
    have o2 := set_old hs2
    have k02 : Keep X H2 := keep_put (k0.trans k1) (by omega) o2 n2
    have hc2 := (o2 b0 (by omega)).trans ((k1.2 b0 (by omega)).trans hg0)
    have l02 := k02.1
    have hT2 := hT.keep k02
    have hr2 := hr.keep k02
    have ho2 : Ints H2 ov o := ho.keep k02
    have hd2 : Ints H2 dv D := hd.keep k02
    repeat' first
      | refine CO.nil ?_
      | fail
    refine CV.seq ?_
    refine CV.midK (α := Unit) (fun _u => [(1, ov), (2, dv), (3, .pointer (some ⟨bt, 0, none⟩)), (4, .pointer (some ⟨b0, 0, none⟩)), (11, .pointer (some ⟨b1, 0, none⟩))]) (fun _u Hz => Told Hz bt lv hv rv T A0 A1 A2 A3 ls.length ∧ Fr A0 A1 A2 A3 X Hz ∧ Hz.get b0 = some (.cells (Chl mk lo hi sv) 26 1) ∧ Hz.get b1 = some (.cells [VI e.lo, VI e.hi] sT 1) ∧ H2.n ≤ Hz.n) ?_ ?_
    · by_cases hD : D.length = 0
      · have h0 := hD0 hD
        repeat' first
          | refine CO.cons rfl ?_
          | refine CO.nil ?_
          | refine CV.seq ?_
          | refine CV.region callees ?_
          | refine CV.cond ?_
          | refine CV.skip ?_
          | refine ⟨_, ints_len (by assumption), ?_⟩
          | (refine ⟨fun _ => ?_, fun _ => ?_⟩ <;> first | (exfalso; omega) | skip)
          | fail
        refine ⟨(()), (by repeat' first | exact trivial | refine ⟨rfl, ?_⟩), ?_⟩
        refine ⟨hT2, Fr.of k02, hc2, ?_, Nat.le_refl _⟩
        rw [h0]; exact hg2
      · obtain ⟨j, hj⟩ : ∃ j, D.length = j + 1 := ⟨D.length - 1, by omega⟩
        have h1 := hDk j hj
        have hjo : j < o.length := by omega
        have hkj := hok o[j]! (by rw [getElem!_pos o j hjo]; exact List.getElem_mem _)
        have hoj : o[((D.length : Int) - 1).toNat]! = o[j]! := by congr 1; omega
        have hlk := lk_day hr2 (i := (o[j]!).toNat) (by omega)
        repeat' first
          | refine CO.cons rfl ?_
          | refine CO.nil ?_
          | refine CV.seq ?_
          | refine CV.region callees ?_
          | refine CV.cond ?_
          | refine CV.draw callees (by decide +kernel) ?_
          | refine CH.cons rfl ?_
          | refine CH.nil ?_
          | refine ⟨_, ints_len (by assumption), ?_⟩
          | refine ⟨_, ints_addr (by assumption) (by omega) (by omega), ?_⟩
          | refine ⟨_, ints_load (by assumption) (by omega) (by omega), ?_⟩
          | refine ⟨(⟨by omega, by omega⟩ : inI64 _), ?_⟩
          | (refine ⟨_, fS foC2 (by decide), ?_⟩)
          | (refine ⟨_, cell_load agLs hc2 rfl, ?_⟩)
          | (rw [hoj])
          | (refine ⟨_, ls_addr hr2 (by omega) (by omega), ?_⟩)
          | (refine ⟨_, hlk.1, ?_⟩)
          | (refine ⟨_, hlk.2, ?_⟩)
          | (refine ⟨fun _ => ?_, fun _ => ?_⟩ <;> first | (exfalso; omega) | skip)
          | fail
        refine ⟨_, _, stSp hg2, by omega, ?_⟩
        generalize hs3 : Heap.set H2 b1 _ = H3
        have hg3 : H3.get b1 = some (.cells [VI ls[(o[j]!).toNat]!.lo, VI ls[(o[j]!).toNat]!.hi] sT 1) := set_get hs3
        have n3 := set_n hs3
        have o3 := set_old hs3
        repeat' first
          | refine CO.nil ?_
          | refine CH.nil ?_
          | fail
        refine ⟨(()), (by repeat' first | exact trivial | refine ⟨rfl, ?_⟩), ?_⟩
        have k03 : Keep X H3 := keep_put k02 (by omega) o3 n3
        refine ⟨hT.keep k03, Fr.of k03, (o3 b0 (by omega)).trans hc2, ?_, by omega⟩
        rw [h1]; exact hg3
    clear hT2 hr2 ho2 hd2 hg2 hc2
    rintro _ H4 ⟨hT4, fr4, hc4, hx4, hn24⟩ hB4
    have l4 := fr4.le
    have hb04 : A3 ≤ b0 ∧ A3 ≤ b1 := by omega
    have hn4 : b0 < H4.n ∧ b1 < H4.n := by omega
    repeat' first
      | refine CO.cons rfl ?_
      | refine CO.nil ?_
      | refine CV.seq ?_
      | refine CV.region callees ?_
      | refine CV.block ?_
      | (refine ⟨_, fS foS0 (by decide), ?_⟩)
      | (refine ⟨_, cell_load ag3 hx4 rfl, ?_⟩)
      | fail
    refine CV.loopc ?_
    refine WCv.rounds callees false (α := Nat) (fun i => [(1, ov), (2, dv), (3, .pointer (some ⟨bt, 0, none⟩)), (4, .pointer (some ⟨b0, 0, none⟩)), (11, .pointer (some ⟨b1, 0, none⟩)), (12, VI (e.lo + (i : Int)))]) (fun i Hz => i ≤ m ∧ Told Hz bt lv hv rv ((stoP E D i).foldl (updT E) T) A0 A1 A2 A3 ls.length ∧ Fr A0 A1 A2 A3 H4 Hz) (fun i => m - i) (0) (by repeat' first | exact trivial | refine ⟨rfl, ?_⟩ | refine ⟨slot_int (by (try simp only [Int.toNat_natCast]); omega), ?_⟩) ?_ ?_
    · exact ⟨by omega, hT4, Fr.refl⟩
    clear hT4
    rintro i Hx ⟨hi', hTx, frx⟩ hBx
    have lx := frx.le
    have frX := fr4.trans frx
    have hcx := (frx.get b0 hn4.1 (.inr (.inr hb04.1))).trans hc4
    have hxx := (frx.get b1 hn4.2 (.inr (.inr hb04.2))).trans hx4
    have hrx := frX.rowS hr fun c hc => .inl (hsv c hc)
    have hox : Ints Hx ov o := frX.row ho fun c hc => .inr (.inl (hov c hc))
    have hdx : Ints Hx dv D := frX.row hd fun c hc => .inr (.inr (hdv c hc))
    by_cases hi2 : i < m
    · have hsn := hsucc i
      have hla : ¬ D.length = 0 → D[((D.length : Int) - 1).toNat]! = lastD D := fun h => by
        unfold lastD; rw [if_neg h]; congr 1; omega
      have hl0 : D.length = 0 → lastD D = -1 := fun h => by unfold lastD; rw [if_pos h]
      by_cases hlt : lastD D < e.lo + (i : Int)
      · rw [if_pos hlt] at hsn
        have hb0n : b0 < Hx.n := by omega
        by_cases hD : D.length = 0
        · repeat' first
            | refine CO.cons rfl ?_
            | refine CO.nil ?_
            | refine CV.seq ?_
            | refine CV.region callees ?_
            | refine CV.cond ?_
            | refine CV.block ?_
            | refine CV.skip ?_
            | refine CO.consG rfl ?_
            | refine CR.cons (es := []) ?_
            | refine ⟨_, ints_len (by assumption), ?_⟩
            | (refine ⟨_, fS foS1 (by decide), ?_⟩)
            | (refine ⟨_, cell_load ag3 hxx rfl, ?_⟩)
            | refine CV.mX callees (by decide +kernel) [(0, []), (1, []), (2, []), (4, []), (7, []), (3, [0]), (5, [0]), (6, [0]), (8, [])] (by kernel_rfl) ?_
            | (refine ⟨_, ldCh hcx, ?_⟩)
            | (refine ⟨fun _ => ?_, fun _ => ?_⟩ <;> first | (exfalso; omega) | skip)
            | fail
          refine CR.call ?_
          refine (ints_spec (Nat.le_refl _) hdx (by omega)).mono ?_
          rintro u H5 ⟨hu, k5⟩
          have l5 := k5.1
          have hc5 := (k5.2 b0 (by omega)).trans hcx
          repeat' first
            | fail
          refine CR.opL Hx.n (by omega) (by omega) ?_
          refine ⟨_, _, build_one un22 one3 rfl, ?_⟩
          refine .inr ⟨by omega, _, ldCh hc5, ?_⟩
          refine CR.opL Hx.n (by omega) (by show Hx.n ≤ H5.n + 1; omega) ?_
          refine push_ask (B := Hx.n) (y := e.lo + (i : Int)) hu (by omega) (Nat.le_refl _) (by omega) ?_
          intro u2 H6 hu2 kb6 hf6
          have l6 := kb6.le
          have hcN : (H5.new (.cells [VI (e.lo + (i : Int))] 3 2)).get b0 = some (.cells (Chl mk lo hi sv) 26 1) := by rw [Heap.get_new_ne _ _ (by omega)]; exact hc5
          refine .inr ⟨by omega, _, ldCh hcN, ?_⟩
          have k6 : Keep Hx H6 := kb6.keep k5 fun c hc => (hu.lt hc).1
          have hxb := hTx.b
          have hih := ih (D ++ [e.lo + (i : Int)]) u2 _ H6 (by rw [List.length_append, List.length_singleton]; omega) (.inr (by rw [lastD_snoc]; omega)) (hrx.keep k6) (Row.keep hox k6) hu2.row (fun c hc => by have := (hu2.lt hc).1; omega) (hTx.keep k6)
          rw [← List.foldl_append, ← hsn] at hih
          repeat' first
            | refine CR.cons (es := []) ?_
            | fail
          refine hih.mono ?_
          rintro v7 H7 ⟨hT7, fr7⟩
          repeat' first
            | refine CO.cons rfl ?_
            | refine CO.nil ?_
            | refine CV.region callees ?_
            | refine CR.nil ?_
            | refine ⟨(⟨by omega, by omega⟩ : inI64 _), ?_⟩
            | fail
          refine ⟨(i + 1), (by repeat' first | exact trivial | refine ⟨rfl, ?_⟩ | refine ⟨slot_int (by (try simp only [Int.toNat_natCast]); omega), ?_⟩), (by (try dsimp only); omega), ?_⟩
          exact ⟨by omega, hT7, (frx.trans (Fr.of k6)).trans fr7⟩
        · have hla := hla hD
          repeat' first
            | refine CO.cons rfl ?_
            | refine CO.nil ?_
            | refine CV.seq ?_
            | refine CV.region callees ?_
            | refine CV.cond ?_
            | refine CV.block ?_
            | refine CV.skip ?_
            | refine CO.consG rfl ?_
            | refine CR.cons (es := []) ?_
            | refine ⟨_, ints_len (by assumption), ?_⟩
            | refine ⟨_, ints_addr (by assumption) (by omega) (by omega), ?_⟩
            | refine ⟨_, ints_load (by assumption) (by omega) (by omega), ?_⟩
            | refine ⟨(⟨by omega, by omega⟩ : inI64 _), ?_⟩
            | (refine ⟨_, fS foS1 (by decide), ?_⟩)
            | (refine ⟨_, cell_load ag3 hxx rfl, ?_⟩)
            | (rw [hla])
            | refine CV.mX callees (by decide +kernel) [(0, []), (1, []), (2, []), (4, []), (7, []), (3, [0]), (5, [0]), (6, [0]), (8, [])] (by kernel_rfl) ?_
            | (refine ⟨_, ldCh hcx, ?_⟩)
            | (refine ⟨fun _ => ?_, fun _ => ?_⟩ <;> first | (exfalso; omega) | skip)
            | fail
          refine CR.call ?_
          refine (ints_spec (Nat.le_refl _) hdx (by omega)).mono ?_
          rintro u H5 ⟨hu, k5⟩
          have l5 := k5.1
          have hc5 := (k5.2 b0 (by omega)).trans hcx
          repeat' first
            | fail
          refine CR.opL Hx.n (by omega) (by omega) ?_
          refine ⟨_, _, build_one un22 one3 rfl, ?_⟩
          refine .inr ⟨by omega, _, ldCh hc5, ?_⟩
          refine CR.opL Hx.n (by omega) (by show Hx.n ≤ H5.n + 1; omega) ?_
          refine push_ask (B := Hx.n) (y := e.lo + (i : Int)) hu (by omega) (Nat.le_refl _) (by omega) ?_
          intro u2 H6 hu2 kb6 hf6
          have l6 := kb6.le
          have hcN : (H5.new (.cells [VI (e.lo + (i : Int))] 3 2)).get b0 = some (.cells (Chl mk lo hi sv) 26 1) := by rw [Heap.get_new_ne _ _ (by omega)]; exact hc5
          refine .inr ⟨by omega, _, ldCh hcN, ?_⟩
          have k6 : Keep Hx H6 := kb6.keep k5 fun c hc => (hu.lt hc).1
          have hxb := hTx.b
          have hih := ih (D ++ [e.lo + (i : Int)]) u2 _ H6 (by rw [List.length_append, List.length_singleton]; omega) (.inr (by rw [lastD_snoc]; omega)) (hrx.keep k6) (Row.keep hox k6) hu2.row (fun c hc => by have := (hu2.lt hc).1; omega) (hTx.keep k6)
          rw [← List.foldl_append, ← hsn] at hih
          repeat' first
            | refine CR.cons (es := []) ?_
            | fail
          refine hih.mono ?_
          rintro v7 H7 ⟨hT7, fr7⟩
          repeat' first
            | refine CO.cons rfl ?_
            | refine CO.nil ?_
            | refine CV.region callees ?_
            | refine CR.nil ?_
            | refine ⟨(⟨by omega, by omega⟩ : inI64 _), ?_⟩
            | fail
          refine ⟨(i + 1), (by repeat' first | exact trivial | refine ⟨rfl, ?_⟩ | refine ⟨slot_int (by (try simp only [Int.toNat_natCast]); omega), ?_⟩), (by (try dsimp only); omega), ?_⟩
          exact ⟨by omega, hT7, (frx.trans (Fr.of k6)).trans fr7⟩
      · rw [if_neg hlt, List.append_nil] at hsn
        have hD : ¬ D.length = 0 := fun h => by have := hl0 h; omega
        have hla := hla hD
        repeat' first
          | refine CO.cons rfl ?_
          | refine CO.nil ?_
          | refine CV.seq ?_
          | refine CV.region callees ?_
          | refine CV.cond ?_
          | refine CV.block ?_
          | refine CV.skip ?_
          | refine CO.consG rfl ?_
          | refine ⟨_, ints_len (by assumption), ?_⟩
          | refine ⟨_, ints_addr (by assumption) (by omega) (by omega), ?_⟩
          | refine ⟨_, ints_load (by assumption) (by omega) (by omega), ?_⟩
          | refine ⟨(⟨by omega, by omega⟩ : inI64 _), ?_⟩
          | (refine ⟨_, fS foS1 (by decide), ?_⟩)
          | (refine ⟨_, cell_load ag3 hxx rfl, ?_⟩)
          | (rw [hla])
          | (refine ⟨fun _ => ?_, fun _ => ?_⟩ <;> first | (exfalso; omega) | skip)
          | fail
        refine ⟨(i + 1), (by repeat' first | exact trivial | refine ⟨rfl, ?_⟩ | refine ⟨slot_int (by (try simp only [Int.toNat_natCast]); omega), ?_⟩), (by (try dsimp only); omega), ?_⟩
        exact ⟨by omega, by rw [hsn]; exact hTx, frx⟩
    obtain rfl : i = m := by omega
    repeat' first
      | refine CO.cons rfl ?_
      | refine CO.nil ?_
      | refine CV.seq ?_
      | refine CV.region callees ?_
      | refine CV.cond ?_
      | refine CV.exit ?_
      | (refine ⟨_, fS foS1 (by decide), ?_⟩)
      | (refine ⟨_, cell_load ag3 hxx rfl, ?_⟩)
      | (refine ⟨fun _ => ?_, fun _ => ?_⟩ <;> first | (exfalso; omega) | skip)
      | fail
    exact ⟨rfl, hTx, frX⟩
end Go.Proofs.Ytijimplcjaeneaa

