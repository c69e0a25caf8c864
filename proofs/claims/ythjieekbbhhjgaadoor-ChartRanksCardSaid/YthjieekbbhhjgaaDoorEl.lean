/- The abstract machine: what is found by evaluation, on a memory of the globals alone, holds everywhere. -/
import Derived.Test.YthjieekbbhhjgaaDoorEk
namespace Go.AI

/-- A memory of these blocks. -/
def laid : List AObj → Heap → Heap
  | [], H => H
  | o :: l, H => laid l (H.new o)
theorem laid_n : ∀ (l : List AObj) (H : Heap), (laid l H).n = H.n + l.length
  | [], _ => rfl
  | o :: l, H => by rw [laid, laid_n l]; simp [Heap.new]; omega
theorem laid_get : ∀ (l : List AObj) (H : Heap), (∀ b o, H.get b = some o → b < H.n) → ∀ b o, (laid l H).get b = some o ↔ (H.get b = some o ∨ ∃ i, b = H.n + i ∧ l[i]? = some o)
  | [], H, hH, b, o => by simp [laid]
  | x :: l, H, hH, b, o => by
    have hH' : ∀ b o, (H.new x).get b = some o → b < (H.new x).n := by
      intro b o h
      show b < H.n + 1
      by_cases hb : b = H.n
      · omega
      · rw [Heap.get_new_ne _ _ hb] at h; have := hH b o h; omega
    rw [laid, laid_get l _ hH' b o]
    constructor
    · rintro (h | ⟨i, rfl, h⟩)
      · by_cases hb : b = H.n
        · subst hb; rw [Heap.get_new_eq] at h
          exact .inr ⟨0, by simp, by simpa using h⟩
        · rw [Heap.get_new_ne _ _ hb] at h; exact .inl h
      · exact .inr ⟨i + 1, by show H.n + 1 + i = H.n + (i + 1); omega, by simpa using h⟩
    · rintro (h | ⟨i, rfl, h⟩)
      · have := hH b o h
        exact .inl (by rw [Heap.get_new_ne _ _ (by omega)]; exact h)
      · cases i with
        | zero => exact .inl (by simp at h; rw [show H.n + 0 = H.n from rfl, Heap.get_new_eq, h])
        | succ i => exact .inr ⟨i, by show H.n + (i + 1) = H.n + 1 + i; omega, by simpa using h⟩
def nothing : Heap := ⟨0, .leaf⟩
def baseHeap (l : List AObj) : Heap := laid l nothing
theorem base_n (l : List AObj) : (baseHeap l).n = l.length := by rw [baseHeap, laid_n]; simp [nothing]
theorem base_get (l : List AObj) (b : Nat) (o : AObj) : (baseHeap l).get b = some o ↔ l[b]? = some o := by
  rw [baseHeap, laid_get l nothing (by intro b o h; simp [nothing, Heap.get, Tr.get] at h) b o]
  constructor
  · rintro (h | ⟨i, rfl, h⟩)
    · simp [nothing, Heap.get, Tr.get] at h
    · simpa [nothing] using h
  · intro h; exact .inr ⟨b, by simp [nothing], h⟩

/-- A block of memory that is only read, of values that name none. -/
def calm : AObj → Bool
  | .gone => true
  | .cells cs _ 0 => cs.all scalar
  | _ => false

theorem scalars_eq {ρ : Ren} : ∀ (cs ys : List Value), cs.all scalar = true → L2 (VC ρ) cs ys → ys = cs
  | _, _, _, .nil => rfl
  | c :: cs, y :: ys, h, .cons h1 h2 => by
    simp only [List.all_cons, Bool.and_eq_true] at h
    rw [scalars_eq cs ys h.2 h2]
    have : VT ρ c y := .one (.cell h1)
    rw [this.plain (by
      have := h.1
      cases c <;> simp_all [plain, flat, scalar])]
theorem scalars_refl {ρ : Ren} : ∀ (cs : List Value), cs.all scalar = true → L2 (VC ρ) cs cs
  | [], _ => .nil
  | c :: cs, h => by
    simp only [List.all_cons, Bool.and_eq_true] at h
    exact .cons (.same h.1) (scalars_refl cs h.2)
theorem calm_or {P : Program} {B : Nat} {ρ ρ' : Ren} {w : World} {e : Ent} {o : AObj} (hc : calm o = true) (h : OR P B ρ w e o) : OR P B ρ' w e o := by
  match o, hc, h with
  | .gone, _, _ => trivial
  | .cells cs _ 0, hc, ⟨h1, ys, h2, h3⟩ =>
    have := scalars_eq cs ys hc h2
    subst this
    exact ⟨h1, _, scalars_refl _ hc, h3⟩

/-- A function without arguments that is evaluated on the globals alone. -/
def found (P : Program) (l : List AObj) (k f : Nat) (v : Value) : Prop :=
  ∃ H' lo, @call P (Oracle.none P) k f [] (baseHeap l) = some (v, H', lo) ∧ (baseHeap l).n ≤ lo

theorem found_ok {P : Program} {B : Nat} (hm : P.follows .mixedOrders = true) {l : List AObj} (hl : l.all calm = true) (hn : l.length = P.globals.size) {k f : Nat} {v : Value} (hp : plain v = true) (h : found P l k f v)
    {H : Heap} (hH : ∀ b o, l[b]? = some o → H.get b = some o) {ρ : Ren} {w : World} {args : Array Value} (kf : Nat) (hR : HR P B ρ H w) (ha : L2 (VT ρ) [] args.toList) :
    CallsIn Fence.wide kf P f args w (fun e w' => ∃ ρ' v', e = .returned v' ∧ VT ρ' v v' ∧ HR P B ρ' H w' ∧ Ext B ρ ρ' H.n w w') := by
  obtain ⟨H', lo, h1, h2⟩ := h
  let ρb : Ren := fun b => if b < l.length then ρ b else none
  have hρb : ∀ b e, ρb b = some e → b < l.length ∧ ρ b = some e := fun b e hb => by
    simp only [ρb] at hb; split at hb
    · exact ⟨by assumption, hb⟩
    · cases hb
  have hbase : ∀ b o, (baseHeap l).get b = some o → b < l.length ∧ calm o = true ∧ H.get b = some o := fun b o hb => by
    rw [base_get] at hb
    exact ⟨(List.getElem?_eq_some_iff.1 hb).1, List.all_eq_true.1 hl o (List.mem_of_getElem? hb), hH b o hb⟩
  have hRb : HR P B ρb (baseHeap l) w := by
    refine ⟨fun b hb => ?_, fun b e hb => ?_, fun b o hb => ?_, fun b o e ho he => ?_, fun b b' o o' e e' ho ho' he he' hw hw' => ?_, fun b e he => hR.top b e (hρb b e he).2, fun g hg => ?_, hR.old⟩
    · rw [base_n] at hb
      have : H.get b = some l[b] := hH b _ (by simp [hb])
      obtain ⟨e, he⟩ := hR.dom b (hR.objs b _ this)
      exact ⟨e, by simp only [ρb, hb, if_true]; exact he⟩
    · rw [base_n]; exact (hρb b e hb).1
    · rw [base_n]; exact (hbase b o hb).1
    · exact calm_or (hbase b o ho).2.1 (hR.obj b o e (hbase b o ho).2.2 (hρb b e he).2)
    · exact hR.inj b b' o o' e e' (hbase b o ho).2.2 (hbase b' o' ho').2.2 (hρb b e he).2 (hρb b' e' he').2 hw hw'
    · obtain ⟨c, hc⟩ := hR.glob g hg
      exact ⟨c, by simp only [ρb, show g < l.length by omega, if_true]; exact hc⟩
  have ha' : L2 (VT ρb) [] args.toList := by
    cases hh : args.toList with
    | nil => exact .nil
    | cons x y => rw [hh] at ha; cases ha
  have := @call_sound P B (Oracle.none P) (fun f v hv => by cases hv) hm k f [] (baseHeap l) v H' lo h1 ρb w args kf hRb ha'
  refine this.mono ?_
  rintro e w' ⟨ρ', v', rfl, h3, h4, h5⟩
  have hb := h5.below hRb h2
  rw [h3.plain hp]
  exact ⟨ρ, v, rfl, .of_plain hp, hR.below hb, Ext.of_below _ hb⟩
end Go.AI
