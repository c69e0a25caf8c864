
/- Holders as a call of the model; awake as a closed call. -/
import Derived.Test.YtijimplcjaeneaaGreatDoorcaz
import Derived.Test.YtijimplcjaeneaaGreatDoorEy
set_option linter.unusedVariables false
set_option linter.unusedSimpArgs false
namespace Go.Proofs.YtijimplcjaeneaaGreatDoor
open Go.AI
def lkOf : List Value → Option (List Lk)
  | [] => some []
  | .int .i64 a :: .int .i64 b :: .int .i64 c :: .int .i64 d :: r => (lkOf r).map (⟨a, b, c, d⟩ :: ·)
  | _ => none
theorem lkOf_spec : ∀ (cs : List Value) {ls : List Lk}, lkOf cs = some ls → cs = (ls.map Lkl).flatten
  | [], ls, h => by
    simp only [lkOf, Option.some.injEq] at h
    subst h; rfl
  | .int .i64 a :: .int .i64 b :: .int .i64 c :: .int .i64 d :: r, ls, h => by
    simp only [lkOf, Option.map_eq_some_iff] at h
    obtain ⟨t, ht, rfl⟩ := h
    have := lkOf_spec r ht
    rw [List.map_cons, List.flatten_cons, ← this]
    rfl
theorem lkRows {l : List Lk} : ∀ r ∈ l.map Lkl, r.length = 4 := by
  intro r hr
  obtain ⟨e, _, rfl⟩ := List.mem_map.1 hr
  rfl
def linksAt (H : Heap) : Value → Option (List Lk)
  | .slice none 0 0 => some []
  | .slice (some ⟨0, 0, some 0⟩) 0 0 => some []
  | .slice (some ⟨b, i, none⟩) n _ =>
    match H.get b with
    | some (.cells cs _ k) => if k ≠ 1 ∧ i + n * 4 ≤ cs.length ∧ b < H.n then lkOf ((cs.drop i).take (n * 4)) else none
    | _ => none
  | _ => none
theorem linksAt_spec {H : Heap} {v : Value} {ls : List Lk} (h : linksAt H v = some ls) : RowS 4 H v (ls.map Lkl) := by
  unfold linksAt at h
  split at h
  · cases h; exact ⟨fun r hr => by simp at hr, .inl ⟨rfl, rfl⟩⟩
  · cases h; exact ⟨fun r hr => by simp at hr, .inr (.inl ⟨rfl, rfl⟩)⟩
  · rename_i b i n c
    split at h
    · rename_i cs e k hg
      split at h
      · rename_i hc
        obtain ⟨h1, h2, h3⟩ := hc
        have hs := lkOf_spec _ h
        have hl := congrArg List.length hs
        rw [flat_len lkRows, List.length_take, List.length_drop, List.length_map] at hl
        have hn : n = ls.length := by omega
        refine ⟨lkRows, .inr (.inr ⟨b, i, c, cs, e, k, by rw [List.length_map, hn], h3, hg, h1, by rw [List.length_map, ← hn]; exact h2, fun j q r w hj hq => ?_⟩)⟩
        have := flat_at lkRows hj hq
        rw [← hs, List.getElem?_take] at this
        split at this
        · rw [List.getElem?_drop] at this
          rw [← this]; congr 1; omega
        · cases this
      · cases h
    · cases h
  · cases h
/-- What Holders answers. -/
def holdF (l : List Value) (H : Heap) : Option Res :=
  match l with
  | [.agg cs, .int .i64 d] =>
    match cs.toList with
    | [.int .i64 mk, .int .i64 lo, .int .i64 hi, sv] =>
      match linksAt H sv with
      | some ls =>
        if chkC mk lo hi ls = 0 then
          (if inB d 0 100000 = true then some (.tuple #[.slice (some ⟨H.n, 0, none⟩) (hoL mk lo hi ls d).length 0, VI 0], H.new (.cells ((hoL mk lo hi ls d).map VI) 3 2), H.n)
          else some (.tuple #[nilS, VI 2], H, H.n))
        else some (.tuple #[nilS, VI (chkC mk lo hi ls)], H, H.n)
      | none => none
    | _ => none
  | _ => none
theorem hold_calls {Bw : Nat} {l : List Value} {H H' : Heap} {v : Value} {lo0 : Nat} (h : holdF l H = some (v, H', lo0)) {ρ : Ren} {w : World} {args : Array Value} (k : Nat) (hH : HR Tryz.prog Bw ρ H w) (ha : L2 (VT ρ) l args.toList) :
    CallsIn Fence.wide k Tryz.prog 20 args w (fun e w' => ∃ ρ' v', e = .returned v' ∧ VT ρ' v v' ∧ HR Tryz.prog Bw ρ' H' w' ∧ Ext Bw ρ ρ' lo0 w w') := by
  unfold holdF at h
  split at h
  · rename_i cs d
    split at h
    · rename_i mk lo hi sv hcs
      obtain rfl : cs = #[VI mk, VI lo, VI hi, sv] := by
        apply Array.toList_inj.1
        exact hcs
      split at h
      · rename_i ls hls
        have hr := linksAt_spec hls
        by_cases hc : chkC mk lo hi ls = 0
        · rw [if_pos hc] at h
          cases hd : inB d 0 100000 with
          | true =>
            rw [hd, if_pos rfl] at h
            cases h
            exact wild_row2 (sure1 Bw) (us := [VI 0]) rfl (by simp) (fn := Tryz.f20) (c := Tryz.f20.body.getD .skip) Tryz.func20 rfl (by kernel_rfl) (Nat.le_of_ble_eq_true rfl)
              (List.all_eq_true.2 fun x hx => by obtain ⟨y, _, rfl⟩ := List.mem_map.1 hx; rfl) (holders_run hr hc hd) k hH ha
          | false =>
            rw [hd, if_neg (by simp)] at h
            cases h
            exact wild_vals (sure1 Bw) (us := [nilS, VI 2]) rfl (fn := Tryz.f20) (c := Tryz.f20.body.getD .skip) Tryz.func20 rfl (by kernel_rfl) (Nat.le_of_ble_eq_true rfl) (holders_day hr hc hd) k hH ha rfl
        · rw [if_neg hc] at h
          cases h
          exact wild_vals (sure1 Bw) (us := [nilS, VI (chkC mk lo hi ls)]) rfl (fn := Tryz.f20) (c := Tryz.f20.body.getD .skip) Tryz.func20 rfl (by kernel_rfl) (Nat.le_of_ble_eq_true rfl) (holders_bad hr hc) k hH ha rfl
      · cases h
    · cases h
  · cases h
def wH (f : FuncId) : Bool := Nat.beq f 20
def wfH (f : FuncId) (l : List Value) (H : Heap) : Option Res := bif Nat.beq f 20 then holdF l H else none
@[reducible] noncomputable def orG (l : List (Nat × Value)) : Oracle Tryz.prog := ⟨fun f => assocV l f, fun H => baseB gl H 0 = true, [], rfl, fun H => instDecidableEqBool (baseB gl H 0) true, wH, wfH⟩
theorem wildG {B : Nat} {l : List (Nat × Value)} : @WildOK Tryz.prog (orG l) B := by
  intro f l H v H' lo hw h ρ w args k hH ha
  have hw : wH f = true := hw
  have h : wfH f l H = some (v, H', lo) := h
  have hf := Nat.eq_of_beq_eq_true (show Nat.beq f 20 = true from hw)
  subst hf
  exact hold_calls h k hH ha
theorem okG_nil {B : Nat} : @OracleOK Tryz.prog (orG []) B := fun f v hv => by cases hv
theorem okG_cons {B : Nat} {l : List (Nat × Value)} (hO : @OracleOK Tryz.prog (orG l) B) {f k : Nat} {v : Value} (hp : plain v = true)
    (h : eqRG (@call Tryz.prog (orG l) k (.fn f) [] (baseHeap gl)) v gl.length = true) : @OracleOK Tryz.prog (orG ((f, v) :: l)) B := by
  intro g u hv H hb ρ w args kf hR ha
  have hv' : assocV ((f, v) :: l) g = some u := hv
  have hH : ∀ b o, gl[b]? = some o → H.get b = some o := fun b o hbo => by
    have := baseB_spec (show baseB gl H 0 = true from hb) b o hbo
    rwa [Nat.zero_add] at this
  simp only [assocV] at hv'
  cases hg : Nat.beq f g with
  | true =>
    rw [hg, cond_true] at hv'
    obtain rfl := Nat.eq_of_beq_eq_true hg
    obtain rfl := Option.some.inj hv'
    obtain ⟨H', lo, e1, e2⟩ := eqRG_spec h
    exact found_inG mixed glCalm nglobs hO wildG hp ⟨H', lo, e1, by rw [base_n]; exact e2⟩ hH kf hR ha
  | false =>
    rw [hg, cond_false] at hv'
    exact hO g u hv' H hb ρ w args kf hR ha
end Go.Proofs.YtijimplcjaeneaaGreatDoor

