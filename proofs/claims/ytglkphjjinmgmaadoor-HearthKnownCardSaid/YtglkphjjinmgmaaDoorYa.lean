/- Calls with arguments whose answers are known, with a new row or none. -/
import Derived.Test.YtglkphjjinmgmaaDoorEy
import Derived.Test.YtglkphjjinmgmaaDoorE0
set_option linter.unusedVariables false
set_option linter.unusedSimpArgs false
namespace Go.AI
/-- As Memo; the answer is a new row of scalars, and scalars. -/
structure MemoR where
  f : Nat
  args : List Value
  n : Nat
  pat : List (Nat × AObj)
  cs : List Value
  elem : Nat
  len : Nat
  us : List Value
def MemoR.heap (m : MemoR) : Heap := ⟨m.n, putAll m.pat .leaf⟩
def MemoR.v (m : MemoR) : Value := .tuple (.slice (some ⟨m.n, 0, none⟩) m.len 0 :: m.us).toArray
def MemoR.fits (m : MemoR) (f : Nat) (args : List Value) (H : Heap) : Bool := Nat.beq m.f f && (Nat.beq H.n m.n && (eqWA args m.args && m.pat.all fun p => sameO p.2 (H.get p.1)))
def memoRF : List MemoR → Nat → List Value → Heap → Option Res
  | [], _, _, _ => Option.none
  | m :: l, f, args, H => bif m.fits f args H then some (m.v, H.new (.cells m.cs m.elem 2), H.n) else memoRF l f args H
def eqRT : Option Res → Value → Nat → Bool
  | some (.tuple u, _, lo), .tuple v, n => eqWA u.toList v.toList && Nat.ble n lo
  | some (u, _, lo), v, n => eqW u v && Nat.ble n lo
  | none, _, _ => false
theorem eqRT_spec {r : Option Res} {v : Value} {n : Nat} (h : eqRT r v n = true) : ∃ H lo, r = some (v, H, lo) ∧ n ≤ lo := by
  unfold eqRT at h
  split at h
  · simp only [Bool.and_eq_true] at h
    rw [Array.toList_inj.1 (eqWA_spec h.1)]; exact ⟨_, _, rfl, Nat.le_of_ble_eq_true h.2⟩
  · simp only [Bool.and_eq_true] at h
    rw [eqW_spec h.1]; exact ⟨_, _, rfl, Nat.le_of_ble_eq_true h.2⟩
  · cases h
def eqRow : Option Res → MemoR → Bool
  | some (.tuple u, H', lo), m => (match u.toList with
    | .slice (some ⟨b, 0, none⟩) n 0 :: r => (Nat.beq n m.len && eqWs r m.us) && ((Nat.ble m.n lo && Nat.ble m.n b) && (match H'.get b with
      | some (.cells cs e 2) => eqWs cs m.cs && Nat.beq e m.elem
      | _ => false))
    | _ => false)
  | _, _ => false
theorem eqRow_spec {r : Option Res} {m : MemoR} (h : eqRow r m = true) : ∃ H' lo b, r = some (.tuple (.slice (some ⟨b, 0, none⟩) m.len 0 :: m.us).toArray, H', lo) ∧ m.n ≤ lo ∧ m.n ≤ b ∧ H'.get b = some (.cells m.cs m.elem 2) := by
  unfold eqRow at h
  split at h
  · rename_i u H' lo
    split at h
    · rename_i b n r hu
      simp only [Bool.and_eq_true] at h
      obtain ⟨⟨h1, h2⟩, ⟨h3, h4⟩, h5⟩ := h
      split at h5
      · rename_i cs e hg
        simp only [Bool.and_eq_true] at h5
        refine ⟨H', lo, b, ?_, Nat.le_of_ble_eq_true h3, Nat.le_of_ble_eq_true h4, ?_⟩
        · have e1 : u = (.slice (some ⟨b, 0, none⟩) m.len 0 :: m.us).toArray := by
            apply Array.toList_inj.1
            rw [hu, Nat.eq_of_beq_eq_true h1, eqWs_spec h2]
          rw [e1]
        · rw [hg, eqWs_spec h5.1, Nat.eq_of_beq_eq_true h5.2]
      · cases h5
    · cases h
  · cases h
@[reducible] def Oracle.plus {P : Program} (O : Oracle P) (ms : List Memo) (rs : List MemoR) : Oracle P :=
  ⟨O.val, O.base, O.exts, O.extsOk, O.dec, fun f => (ms.any fun m => Nat.beq m.f f) || ((rs.any fun m => Nat.beq m.f f) || O.wild f), fun f a H => match memoF ms f a H with
    | some r => some r
    | .none => match memoRF rs f a H with
      | some r => some r
      | .none => bif O.wild f then O.wildF f a H else .none⟩
inductive MemoIn (P : Program) (O : Oracle P) : List Memo → Prop
  | nil : MemoIn P O []
  | cons {m : Memo} {ms : List Memo} {k : Nat} (hp : plain m.v = true) (h : eqRT (@call P O k (.fn m.f) m.args m.heap) m.v m.n = true) (t : MemoIn P O ms) : MemoIn P O (m :: ms)
inductive MemoRIn (P : Program) (O : Oracle P) : List MemoR → Prop
  | nil : MemoRIn P O []
  | cons {m : MemoR} {ms : List MemoR} {k : Nat} (hc : m.cs.all scalar = true) (hu : m.us.all scalar = true) (h : eqRow (@call P O k (.fn m.f) m.args m.heap) m = true) (t : MemoRIn P O ms) : MemoRIn P O (m :: ms)
section
variable {P : Program} {B : Nat}
theorem memoIn_ok (hm : P.follows .mixedOrders = true) {O : Oracle P} (hO : @OracleOK P O B) (hW : @WildOK P O B) {ms : List Memo} (h : MemoIn P O ms) :
    ∀ f a H v H' lo, memoF ms f a H = some (v, H', lo) → ∀ ρ w (args : Array Value) (k : Nat), HR P B ρ H w → L2 (VT ρ) a args.toList →
    CallsIn Fence.wide k P f args w (fun e w' => ∃ ρ' v', e = .returned v' ∧ VT ρ' v v' ∧ HR P B ρ' H' w' ∧ Ext B ρ ρ' lo w w') := by
  induction h with
  | nil => intro f a H v H' lo h; cases h
  | @cons m ms k hp hr _ ih =>
    intro f a H v H' lo h ρ w args kf hR ha
    simp only [memoF] at h
    cases hfit : m.fits f a H with
    | false => rw [hfit] at h; exact ih f a H v H' lo h ρ w args kf hR ha
    | true =>
      rw [hfit, cond_true] at h
      cases h
      simp only [Memo.fits, Bool.and_eq_true, List.all_eq_true] at hfit
      obtain ⟨h1, h2, h3, h4⟩ := hfit
      obtain rfl := Nat.eq_of_beq_eq_true h1
      have h2 := Nat.eq_of_beq_eq_true h2
      obtain rfl := eqWA_spec h3
      have hless : HR P B ρ m.heap w := hR.less h2.symm fun b o hb => by
        rcases putAll_get hb with h5 | h5
        · exact sameO_spec (h4 _ h5)
        · simp [Tr.get] at h5
      obtain ⟨H1, lo1, e1, e2⟩ := eqRT_spec hr
      have := @call_sound P B O hO hm hW k (.fn m.f) m.args m.heap m.v H1 lo1 e1 ρ w args kf hless ha
      replace this : CallsIn Fence.wide kf P m.f args w _ := this.2
      refine this.mono ?_
      rintro e w' ⟨ρ', v', rfl, h5, h6, h7⟩
      have hb := h7.below hless (by show m.n ≤ lo1; exact e2)
      rw [h5.plain hp]
      exact ⟨ρ, m.v, rfl, .of_plain hp, hR.below hb, Ext.of_below _ hb⟩
theorem memoRIn_ok (hm : P.follows .mixedOrders = true) {O : Oracle P} (hO : @OracleOK P O B) (hW : @WildOK P O B) {ms : List MemoR} (h : MemoRIn P O ms) :
    ∀ f a H v H' lo, memoRF ms f a H = some (v, H', lo) → ∀ ρ w (args : Array Value) (k : Nat), HR P B ρ H w → L2 (VT ρ) a args.toList →
    CallsIn Fence.wide k P f args w (fun e w' => ∃ ρ' v', e = .returned v' ∧ VT ρ' v v' ∧ HR P B ρ' H' w' ∧ Ext B ρ ρ' lo w w') := by
  induction h with
  | nil => intro f a H v H' lo h; cases h
  | @cons m ms k hc hu hr _ ih =>
    intro f a H v H' lo h ρ w args kf hR ha
    simp only [memoRF] at h
    cases hfit : m.fits f a H with
    | false => rw [hfit] at h; exact ih f a H v H' lo h ρ w args kf hR ha
    | true =>
      rw [hfit, cond_true] at h
      cases h
      simp only [MemoR.fits, Bool.and_eq_true, List.all_eq_true] at hfit
      obtain ⟨h1, h2, h3, h4⟩ := hfit
      obtain rfl := Nat.eq_of_beq_eq_true h1
      have h2 := Nat.eq_of_beq_eq_true h2
      obtain rfl := eqWA_spec h3
      have hless : HR P B ρ m.heap w := hR.less h2.symm fun b o hb => by
        rcases putAll_get hb with h5 | h5
        · exact sameO_spec (h4 _ h5)
        · simp [Tr.get] at h5
      obtain ⟨H1, lo1, b, e1, e2, hbn, hgb⟩ := eqRow_spec hr
      have := @call_sound P B O hO hm hW k (.fn m.f) m.args m.heap _ H1 lo1 e1 ρ w args kf hless ha
      replace this : CallsIn Fence.wide kf P m.f args w _ := this.2
      refine this.mono ?_
      rintro e w' ⟨ρ', v', rfl, h5, hH2, hE2⟩
      obtain ⟨y, rfl, hy⟩ := vt_tupE h5
      have hbel := hE2.below hless (by show m.n ≤ lo1; exact e2)
      obtain ⟨en, hen⟩ := hH2.dom b (hH2.objs b _ hgb)
      obtain ⟨o1, o2, cur, o3, ⟨ys, rest, o4, o5⟩, o6⟩ := hH2.obj b _ en hgb hen
      have hnb : ρ b = none := by
        cases hb0 : ρ b with
        | none => rfl
        | some e0 => have := hR.lt b e0 hb0; omega
      have hge : w.heap.size ≤ en.blk := by
        rcases hE2.fresh b en hnb hen with h7 | ⟨b0, e0, h8, h9, _⟩
        · exact h7
        · have := hR.lt b0 e0 h9; omega
      have hsc : L2 (VC (Ren.add ρ H.n ⟨en.blk, 0, en.cap⟩)) m.cs ys := by
        refine L2.of_get o5.length fun i x y hx hy => ?_
        exact vc_scalar (List.all_eq_true.1 hc x (List.mem_of_getElem? hx)) (o5.both hx hy)
      obtain ⟨hH3, hE3⟩ := hR.alloc hbel ⟨en.blk, 0, en.cap⟩ (.cells m.cs m.elem 2) H.n hge (hH2.top b en hen) ⟨o1, rfl, cur, o3, ⟨ys, rest, o4, hsc⟩, o6⟩
      refine ⟨Ren.add ρ H.n ⟨en.blk, 0, en.cap⟩, _, rfl, .tup ?_, hH3, hE3⟩
      have hy' : L2 (VR _) (.slice (some ⟨b, 0, none⟩) m.len 0 :: m.us) y.toList := hy
      generalize y.toList = yl at hy'
      cases hy' with
      | cons k1 k2 =>
        refine .cons (vr_row k1 hen o2 (by rw [← h2]; exact Ren.add_eq _ _ _)) (L2.of_get k2.length fun i x y hx hy => ?_)
        exact vr_scalar (List.all_eq_true.1 hu x (List.mem_of_getElem? hx)) (k2.both hx hy)
theorem plus_ok {O : Oracle P} {ms : List Memo} {rs : List MemoR} (h : @OracleOK P O B) : @OracleOK P (O.plus ms rs) B := fun f v hv H hb => h f v hv H hb
theorem plus_wild (hm : P.follows .mixedOrders = true) {O : Oracle P} (hO : @OracleOK P O B) (hW : @WildOK P O B) {ms : List Memo} {rs : List MemoR} (h1 : MemoIn P O ms) (h2 : MemoRIn P O rs) : @WildOK P (O.plus ms rs) B := by
  intro f a H v H' lo _ hw ρ w args k hR ha
  have hw : (match memoF ms f a H with
    | some r => some r
    | none => match memoRF rs f a H with
      | some r => some r
      | none => bif O.wild f then O.wildF f a H else none) = some (v, H', lo) := hw
  split at hw
  · rename_i r hr
    cases hw
    exact memoIn_ok hm hO hW h1 f a H v H' lo hr ρ w args k hR ha
  · split at hw
    · rename_i r hr
      cases hw
      exact memoRIn_ok hm hO hW h2 f a H v H' lo hr ρ w args k hR ha
    · cases hwf : O.wild f with
      | true =>
        rw [hwf, cond_true] at hw
        exact (show ∀ ρ w (args : Array Value) (k : Nat), HR P B ρ H w → L2 (VT ρ) a args.toList → _ from @hW f a H v H' lo hwf hw) ρ w args k hR ha
      | false => rw [hwf] at hw; cases hw
end
end Go.AI
