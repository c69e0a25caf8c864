/- Closed calls, one after the other: what was found before is known. -/
import Derived.Test.YtlamceokhbigaaaX4
set_option linter.unusedVariables false
set_option linter.unusedSimpArgs false
namespace Go.AI
/-- Answers that are known beforehand, of functions without arguments, in a program without variables. -/
@[instance_reducible] def Oracle.of (P : Program) (l : List (Nat × Value)) : Oracle P := ⟨fun f => assocV l f, fun _ => True, [], rfl, fun _ => instDecidableTrue, fun _ => false, fun _ _ _ => Option.none⟩
theorem of_nil {P : Program} {B : Nat} : @OracleOK P (Oracle.of P []) B := fun f v hv => by cases hv
/-- As found_ok, with what is known already. -/
theorem found_in {P : Program} {B : Nat} (hm : P.follows .mixedOrders = true) (hn : P.globals.size = 0) {O : Oracle P} (hO : @OracleOK P O B) (hW : @WildOK P O B) {k f : Nat} {v : Value} (hp : plain v = true)
    (h : ∃ H' lo, @call P O k (.fn f) [] (baseHeap []) = some (v, H', lo)) {H : Heap} {ρ : Ren} {w : World} {args : Array Value} (kf : Nat) (hR : HR P B ρ H w) (ha : L2 (VT ρ) [] args.toList) :
    CallsIn Fence.wide kf P f args w (fun e w' => ∃ ρ' v', e = .returned v' ∧ VT ρ' v v' ∧ HR P B ρ' H w' ∧ Ext B ρ ρ' H.n w w') := by
  obtain ⟨H', lo, h1⟩ := h
  let ρb : Ren := fun _ => none
  have hz : (baseHeap []).n = 0 := base_n []
  have hg : ∀ b o, ¬ (baseHeap []).get b = some o := fun b o hb => by rw [base_get] at hb; simp at hb
  have hRb : HR P B ρb (baseHeap []) w := by
    refine ⟨fun b hb => ?_, fun b e hb => ?_, fun b o hb => (hg b o hb).elim, fun b o e ho => (hg b o ho).elim, fun b b' o' e e' ho => (hg b' o' ho).elim, fun b e he => ?_, fun g hg => ?_, hR.old⟩
    · rw [hz] at hb; omega
    · cases hb
    · cases he
    · rw [hn] at hg; omega
  have ha' : L2 (VT ρb) [] args.toList := by
    cases hh : args.toList with
    | nil => exact .nil
    | cons x y => rw [hh] at ha; cases ha
  have := @call_sound P B O hO hm hW k (.fn f) [] (baseHeap []) v H' lo h1 ρb w args kf hRb ha'
  replace this : CallsIn Fence.wide kf P f args w _ := this.2
  refine this.mono ?_
  rintro e w' ⟨ρ', v', rfl, h3, h4, h5⟩
  have hb := h5.below hRb (by rw [hz]; exact Nat.zero_le _)
  rw [h3.plain hp]
  exact ⟨ρ, v, rfl, .of_plain hp, hR.below hb, Ext.of_below _ hb⟩
def eqV1 : Value → Value → Bool
  | .bool a, .bool b => a == b
  | .int k a, .int j b => decide (k = j) && decide (a = b)
  | _, _ => false
def eqVs : List Value → List Value → Bool
  | [], [] => true
  | a :: x, b :: y => eqV1 a b && eqVs x y
  | _, _ => false
def eqV : Value → Value → Bool
  | .agg a, .agg b => eqVs a.toList b.toList
  | a, b => eqV1 a b
theorem eqV1_spec {a b : Value} (h : eqV1 a b = true) : a = b := by
  unfold eqV1 at h
  split at h
  · rw [eq_of_beq h]
  · simp only [Bool.and_eq_true, decide_eq_true_eq] at h; rw [h.1, h.2]
  · cases h
theorem eqVs_spec : ∀ {x y : List Value}, eqVs x y = true → x = y
  | [], [], _ => rfl
  | a :: x, b :: y, h => by
    simp only [eqVs, Bool.and_eq_true] at h
    rw [eqV1_spec h.1, eqVs_spec h.2]
  | [], _ :: _, h => by cases h
  | _ :: _, [], h => by cases h
theorem eqV_spec {a b : Value} (h : eqV a b = true) : a = b := by
  unfold eqV at h
  split at h
  · rw [← Array.toList_inj.1 (eqVs_spec h)]
  · exact eqV1_spec h
def eqR : Option Res → Value → Bool
  | some (u, _, _), v => eqV u v
  | none, _ => false
theorem eqR_spec {r : Option Res} {v : Value} (h : eqR r v = true) : ∃ H lo, r = some (v, H, lo) := by
  unfold eqR at h
  split at h
  · rw [eqV_spec h]; exact ⟨_, _, rfl⟩
  · cases h
theorem of_cons {P : Program} {B : Nat} (hm : P.follows .mixedOrders = true) (hn : P.globals.size = 0) {l : List (Nat × Value)} (hO : @OracleOK P (Oracle.of P l) B) {f k : Nat} {v : Value} (hp : plain v = true)
    (h : eqR (@call P (Oracle.of P l) k (.fn f) [] (baseHeap [])) v = true) : @OracleOK P (Oracle.of P ((f, v) :: l)) B := by
  intro g u hv H hb ρ w args kf hR ha
  have hv' : assocV ((f, v) :: l) g = some u := hv
  simp only [assocV] at hv'
  cases hg : Nat.beq f g with
  | true =>
    rw [hg, cond_true] at hv'
    obtain rfl := Nat.eq_of_beq_eq_true hg
    obtain rfl := Option.some.inj hv'
    exact found_in hm hn hO (@wild_none P B (Oracle.of P l) fun _ => rfl) hp (eqR_spec h) kf hR ha
  | false =>
    rw [hg, cond_false] at hv'
    exact hO g u hv' H trivial ρ w args kf hR ha
end Go.AI
