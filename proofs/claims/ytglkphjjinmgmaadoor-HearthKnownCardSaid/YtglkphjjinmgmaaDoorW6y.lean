
/- When each coal begins, as a call of the model. -/
import Derived.Test.YtglkphjjinmgmaaDoorW5y
set_option linter.unusedVariables false
set_option linter.unusedSimpArgs false
namespace Go.Proofs.YtglkphjjinmgmaaDoor
open Go.AI
/-- What a fire's coals begin with, as arguments say. -/
def BegOf (l : List Value) (H : Heap) (B : List Int) : Prop := ∃ cv tv e cs ts, l = [Fv cv tv, VJ e] ∧ RowS 7 H cv (cs.map Col) ∧ RowS 2 H tv (ts.map Hl) ∧ FOk cs ts ∧ (e = 0 ∨ e = 1) ∧ IsBeg e cs ts B
theorem begin_calls {Bw : Nat} {l : List Value} {H : Heap} {B : List Int} (h : BegOf l H B) {ρ : Ren} {w : World} {args : Array Value} (k : Nat) (hH : HR Tryd.prog Bw ρ H w) (ha : L2 (VT ρ) l args.toList) :
    CallsIn Fence.wide k Tryd.prog 54 args w (fun e w' => ∃ ρ' v', e = .returned v' ∧ VT ρ' (.slice (some ⟨H.n, 0, none⟩) B.length 0) v' ∧ HR Tryd.prog Bw ρ' (H.new (.cells (B.map VJ) 3 2)) w' ∧ Ext Bw ρ ρ' H.n w w') := by
  obtain ⟨cv, tv, e, cs, ts, rfl, h1, h2, h3, h4, h5⟩ := h
  refine wild_row (sure1 Bw) (fn := Tryd.f54) (c := Tryd.f54.body.getD .skip) Tryd.func54 rfl (by kernel_rfl) (Nat.le_of_ble_eq_true rfl) ?_ ?_ k hH ha
  · exact List.all_eq_true.2 fun x hx => by obtain ⟨y, _, rfl⟩ := List.mem_map.1 hx; rfl
  · rw [h5.len]
    exact beginning_run h1 h2 h3 h4 h5

/-! ### The same, found by reckoning. -/
def coOf : List Value → Option (List Co)
  | [] => some []
  | .int .i64 a :: .int .i64 b :: .int .i64 c :: .int .i64 d :: .int .i64 e :: .int .i64 f :: .bool g :: r => (coOf r).map (⟨a, b, c, d, e, f, g⟩ :: ·)
  | _ => none
theorem coOf_spec : ∀ (cs : List Value) {ls : List Co}, coOf cs = some ls → cs = (ls.map Col).flatten
  | [], ls, h => by
    simp only [coOf, Option.some.injEq] at h
    subst h; rfl
  | .int .i64 a :: .int .i64 b :: .int .i64 c :: .int .i64 d :: .int .i64 e :: .int .i64 f :: .bool g :: r, ls, h => by
    simp only [coOf, Option.map_eq_some_iff] at h
    obtain ⟨t, ht, rfl⟩ := h
    have := coOf_spec r ht
    rw [List.map_cons, List.flatten_cons, ← this]
    rfl
def tsOf : List Value → Option (List (Int × Int))
  | [] => some []
  | .int .i64 a :: .int .i64 b :: r => (tsOf r).map ((a, b) :: ·)
  | _ => none
theorem tsOf_spec : ∀ (cs : List Value) {ls : List (Int × Int)}, tsOf cs = some ls → cs = (ls.map Hl).flatten
  | [], ls, h => by
    simp only [tsOf, Option.some.injEq] at h
    subst h; rfl
  | .int .i64 a :: .int .i64 b :: r, ls, h => by
    simp only [tsOf, Option.map_eq_some_iff] at h
    obtain ⟨t, ht, rfl⟩ := h
    have := tsOf_spec r ht
    rw [List.map_cons, List.flatten_cons, ← this]
    rfl
def rowAtV (s : Nat) (H : Heap) : Value → Option (List Value)
  | .slice none 0 0 => some []
  | .slice (some ⟨0, 0, some 0⟩) 0 0 => some []
  | .slice (some ⟨b, i, none⟩) n _ =>
    match H.get b with
    | some (.cells cs _ k) => if k ≠ 1 ∧ i + n * s ≤ cs.length ∧ b < H.n then some ((cs.drop i).take (n * s)) else none
    | _ => none
  | _ => none
theorem rowAtV_spec {α : Type} {s : Nat} {f : α → List Value} (hs0 : 0 < s) (hf : ∀ x, (f x).length = s) {H : Heap} {v : Value} {cells : List Value} {l : List α} (h : rowAtV s H v = some cells) (he : cells = (l.map f).flatten) : RowS s H v (l.map f) := by
  have hrow : ∀ r ∈ l.map f, r.length = s := fun r hr => by obtain ⟨x, _, rfl⟩ := List.mem_map.1 hr; exact hf x
  have hnil : cells = [] → l.map f = [] := fun h0 => by
    have := congrArg List.length he
    rw [h0, flat_len hrow, List.length_nil] at this
    have hz : (l.map f).length = 0 := by
      cases hl : (l.map f).length with
      | zero => rfl
      | succ n => rw [hl, Nat.succ_mul] at this; omega
    exact List.eq_nil_of_length_eq_zero hz
  unfold rowAtV at h
  split at h
  · cases h; exact ⟨hrow, .inl ⟨rfl, hnil rfl⟩⟩
  · cases h; exact ⟨hrow, .inr (.inl ⟨rfl, hnil rfl⟩)⟩
  · rename_i b i n c
    split at h
    · rename_i cs e k hg
      split at h <;> cases h
      rename_i hc
      obtain ⟨h1, h2, h3⟩ := hc
      have hl := congrArg List.length he
      rw [flat_len hrow, List.length_take, List.length_drop] at hl
      have hn : n = (l.map f).length := by
        have h4 : n * s = (l.map f).length * s := by omega
        exact Nat.eq_of_mul_eq_mul_right hs0 h4
      refine ⟨hrow, .inr (.inr ⟨b, i, c, cs, e, k, by rw [hn], h3, hg, h1, by rw [← hn]; exact h2, fun j q r w hj hq => ?_⟩)⟩
      have := flat_at hrow hj hq
      rw [← he, List.getElem?_take] at this
      split at this
      · rw [List.getElem?_drop] at this
        rw [← this]; congr 1; omega
      · cases this
    · cases h
  · cases h
def coOkB (c : Co) : Bool := decide (1 ≤ c.cl) && decide (c.cl ≤ c.ch) && decide (c.ch ≤ 300) && decide (1 ≤ c.bl) && decide (c.bl ≤ c.bh) && decide (c.bh ≤ 300) && decide (0 ≤ c.hl) && decide (c.hl ≤ c.hh) && decide (c.hh ≤ 1000)
theorem coOkB_spec {c : Co} (h : coOkB c = true) : CoOk c := by
  simp only [coOkB, Bool.and_eq_true, decide_eq_true_eq] at h
  obtain ⟨⟨⟨⟨⟨⟨⟨⟨h1, h2⟩, h3⟩, h4⟩, h5⟩, h6⟩, h7⟩, h8⟩, h9⟩ := h
  exact ⟨h1, h2, h3, h4, h5, h6, h7, h8, h9⟩
def fokB (cs : List Co) (ts : List (Int × Int)) : Bool := Nat.ble cs.length 12 && cs.all coOkB && Nat.ble ts.length 40 && ts.all fun t => decide (0 ≤ t.1) && decide (t.1 < cs.length) && decide (0 ≤ t.2) && decide (t.2 < cs.length) && decide (t.1 ≠ t.2)
theorem fokB_spec {cs : List Co} {ts : List (Int × Int)} (h : fokB cs ts = true) : FOk cs ts := by
  simp only [fokB, Bool.and_eq_true, List.all_eq_true, decide_eq_true_eq] at h
  obtain ⟨⟨⟨h1, h2⟩, h3⟩, h4⟩ := h
  refine ⟨Nat.le_of_ble_eq_true h1, fun i hi => coOkB_spec (h2 _ (by rw [getElem!_pos cs i hi]; exact List.getElem_mem _)), Nat.le_of_ble_eq_true h3, fun i hi => ?_⟩
  obtain ⟨⟨⟨⟨g1, g2⟩, g3⟩, g4⟩, g5⟩ := h4 ts[i]! (by rw [getElem!_pos ts i hi]; exact List.getElem_mem _)
  exact ⟨⟨g1, g2⟩, ⟨g3, g4⟩, g5⟩
def arcL (e : Int) (cs : List Co) (ts : List (Int × Int)) : List (Int × Int) := (ts ++ ts.map fun p => (p.2, p.1)).filter fun p => decide (ca e (coAt cs p.2) ≤ bu e (coAt cs p.1))
theorem mem_arcL {e : Int} {cs : List Co} {ts : List (Int × Int)} {p : Int × Int} : p ∈ arcL e cs ts ↔ Arc e cs ts p := by
  unfold arcL Arc
  rw [List.mem_filter, List.mem_append, List.mem_map, decide_eq_true_iff]
  constructor
  · rintro ⟨h | ⟨q, hq, rfl⟩, h2⟩
    · exact ⟨.inl h, h2⟩
    · exact ⟨.inr hq, h2⟩
  · rintro ⟨h | h, h2⟩
    · exact ⟨.inl h, h2⟩
    · exact ⟨.inr ⟨_, h, rfl⟩, h2⟩
def relaxF (e : Int) (cs : List Co) (B : List Int) (p : Int × Int) : List Int := B.set p.2.toNat (if B[p.2.toNat]! ≤ B[p.1.toNat]! + ca e (coAt cs p.2) then B[p.2.toNat]! else B[p.1.toNat]! + ca e (coAt cs p.2))
def begF (e : Int) (cs : List Co) (ts : List (Int × Int)) : List Int := (List.range cs.length).foldl (fun B _ => (arcL e cs ts).foldl (relaxF e cs) B) (cs.map fun c => bif c.lt then 0 else 1000000)
def isBegB (e : Int) (cs : List Co) (ts : List (Int × Int)) (B : List Int) : Bool :=
  Nat.beq B.length cs.length && (List.range B.length).all (fun i => decide (0 ≤ B[i]!) && decide (B[i]! ≤ 1000000) && (!cs[i]!.lt || decide (B[i]! = 0)) &&
    (cs[i]!.lt || decide (B[i]! = 1000000) || (arcL e cs ts).any fun p => decide (p.2 = (i : Int)) && decide (B[i]! = B[p.1.toNat]! + ca e (coAt cs p.2)) && decide (B[i]! < 1000000))) &&
  (arcL e cs ts).all fun p => decide (B[p.2.toNat]! ≤ B[p.1.toNat]! + ca e (coAt cs p.2))
theorem isBegB_spec {e : Int} {cs : List Co} {ts : List (Int × Int)} {B : List Int} (h : isBegB e cs ts B = true) : IsBeg e cs ts B := by
  simp only [isBegB, Bool.and_eq_true, List.all_eq_true, decide_eq_true_eq] at h
  obtain ⟨⟨h1, h2⟩, h3⟩ := h
  have g : ∀ i, i < B.length → _ := fun i hi => h2 i (List.mem_range.2 hi)
  refine ⟨Nat.eq_of_beq_eq_true h1, fun i hi => (g i hi).1.1, fun i hi hl => ?_, fun p hp => h3 p (mem_arcL.2 hp), fun i hi hl => ?_⟩
  · have := (g i hi).1.2
    rw [hl] at this
    simpa using this
  · have := (g i hi).2
    rw [hl, Bool.false_or, Bool.or_eq_true, decide_eq_true_eq, List.any_eq_true] at this
    rcases this with h4 | ⟨p, hp, h4⟩
    · exact .inl h4
    · simp only [Bool.and_eq_true, decide_eq_true_eq] at h4
      exact .inr ⟨p, mem_arcL.1 hp, h4.1.1, h4.1.2, h4.2⟩
def begW (l : List Value) (H : Heap) : Option Res :=
  match l with
  | [.agg f, .int .i64 e] =>
    match f.toList with
    | [cv, tv] =>
      match rowAtV 7 H cv, rowAtV 2 H tv with
      | some c1, some t1 =>
        match coOf c1, tsOf t1 with
        | some cs, some ts => if (fokB cs ts && (decide (e = 0) || decide (e = 1)) && isBegB e cs ts (begF e cs ts)) = true then some (.slice (some ⟨H.n, 0, none⟩) (begF e cs ts).length 0, H.new (.cells ((begF e cs ts).map VJ) 3 2), H.n) else none
        | _, _ => none
      | _, _ => none
    | _ => none
  | _ => none
theorem begW_spec {l : List Value} {H H' : Heap} {v : Value} {lo : Nat} (h : begW l H = some (v, H', lo)) : ∃ B, BegOf l H B ∧ v = .slice (some ⟨H.n, 0, none⟩) B.length 0 ∧ H' = H.new (.cells (B.map VJ) 3 2) ∧ lo = H.n := by
  unfold begW at h
  split at h
  · rename_i f e
    split at h
    · rename_i cv tv hf
      obtain rfl : f = #[cv, tv] := by apply Array.toList_inj.1; exact hf
      split at h
      · rename_i c1 t1 hc ht
        split at h
        · rename_i cs ts hcs hts
          split at h <;> cases h
          rename_i hk
          simp only [Bool.and_eq_true, Bool.or_eq_true, decide_eq_true_eq] at hk
          obtain ⟨⟨k1, k2⟩, k3⟩ := hk
          exact ⟨_, ⟨cv, tv, e, cs, ts, rfl, rowAtV_spec (s := 7) (f := Col) (by decide) (fun _ => rfl) hc (coOf_spec _ hcs), rowAtV_spec (s := 2) (f := Hl) (by decide) (fun _ => rfl) ht (tsOf_spec _ hts), fokB_spec k1, k2, isBegB_spec k3⟩, rfl, rfl, rfl⟩
        · cases h
      · cases h
    · cases h
  · cases h
@[reducible] noncomputable def orG (l : List (Nat × Value)) : Oracle Tryd.prog := ⟨fun f => assocV l f, fun H => baseB gl H 0 = true, [], rfl, fun H => instDecidableEqBool (baseB gl H 0) true, fun f => Nat.beq f 54, fun f a H => bif Nat.beq f 54 then begW a H else none⟩
theorem wildG {B : Nat} {l : List (Nat × Value)} : @WildOK Tryd.prog (orG l) B := by
  intro f l H v H' lo hw h ρ w args k hH ha
  have hw : Nat.beq f 54 = true := hw
  have hf := Nat.eq_of_beq_eq_true hw
  subst hf
  have h : begW l H = some (v, H', lo) := h
  obtain ⟨Bs, hb, rfl, rfl, rfl⟩ := begW_spec h
  exact begin_calls hb k hH ha
theorem okG_nil {B : Nat} : @OracleOK Tryd.prog (orG []) B := fun f v hv => by cases hv
theorem okG_cons {B : Nat} {l : List (Nat × Value)} (hO : @OracleOK Tryd.prog (orG l) B) {f k : Nat} {v : Value} (hp : plain v = true)
    (h : eqRG (@call Tryd.prog (orG l) k (.fn f) [] (baseHeap gl)) v gl.length = true) : @OracleOK Tryd.prog (orG ((f, v) :: l)) B := by
  intro g u hv H hb ρ w args kf hR ha
  have hv' : assocV ((f, v) :: l) g = some u := hv
  have hH : ∀ b o, gl[b]? = some o → H.get b = some o := fun b o hbo => by
    have := baseB_spec (show baseB gl H 0 = true from hb) b o hbo
    rwa [Nat.zero_add] at this
  simp only [assocV] at hv'
  cases hg : Nat.beq f g with
  | true =>
    rw [hg, cond_true] at hv'
    obtain rfl := Nat.eq_of_beq_eq_true hg
    obtain rfl := Option.some.inj hv'
    obtain ⟨H', lo, e1, e2⟩ := eqRG_spec h
    exact found_inG mixed glCalm nglobs hO wildG hp ⟨H', lo, e1, by rw [base_n]; exact e2⟩ hH kf hR ha
  | false =>
    rw [hg, cond_false] at hv'
    exact hO g u hv' H hb ρ w args kf hR ha
end Go.Proofs.YtglkphjjinmgmaaDoor

