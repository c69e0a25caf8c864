/- Several texts in one. -/
import Derived.Test.YtijimplcjaeneaaO3
import Derived.Test.YtijimplcjaeneaaO1
set_option linter.unusedVariables false
set_option linter.unusedSimpArgs false

/- Loans as cells; loans made of numbers. -/
namespace Go.Proofs.Ytijimplcjaeneaa
open Go.AI
structure Lo where
  t : Int
  f : Int
  o : Int
  w : Int
deriving Inhabited, DecidableEq
abbrev Lol (l : Lo) : List Value := [VI l.t, VI l.f, VI l.o, VI l.w]
theorem unOs : Try.prog.underlying 59 = some (.slice 99) := by kernel_rfl
end Go.Proofs.Ytijimplcjaeneaa



/- Choices as bits: their numbers, their lists, what they choose; loans that are chosen. -/
namespace Go.AI
/-- The bits of a number below n, the highest one first. -/
def bitsB (c : Nat) : Nat → List Bool
  | 0 => []
  | n + 1 => c.testBit n :: bitsB c n
/-- What is chosen of a list. -/
def selX {α : Type} : List Bool → List α → List α
  | b :: bs, x :: xs => if b then x :: selX bs xs else selX bs xs
  | _, _ => []
end Go.AI
namespace Go.Proofs.Ytijimplcjaeneaa
open Go.AI
section
variable {P : Program} {tm : Tm} {H : Heap} {q : Oper} {t u : TypeId} {x y : Operand}
end
end Go.Proofs.Ytijimplcjaeneaa



/- Loans that contradict each other; what they are worth; whether they may be. -/
namespace Go.Proofs.Ytijimplcjaeneaa
open Go.AI
def contra (a b : Lo) : Bool := decide (a.t = b.t) && (decide (a.f ≤ b.o) && decide (b.f ≤ a.o))
def AccP (l : List Lo) : Prop := ∀ i, i < l.length → ∀ j, j < i → contra l[i]! l[j]! = false
def wsum : List Lo → Int
  | [] => 0
  | x :: t => x.w + wsum t
end Go.Proofs.Ytijimplcjaeneaa



/- Which loans may be; Lend. -/
namespace Go.Proofs.Ytijimplcjaeneaa
open Go.AI
end Go.Proofs.Ytijimplcjaeneaa



/- Lend. -/
namespace Go.Proofs.Ytijimplcjaeneaa
open Go.AI
def memL (l : List Lo) (c : Nat) : List Lo := selX (bitsB c l.length) l
/-- A choice that may be, and than which none of the first ones is better, nor as good and greater. -/
def BestN (l : List Lo) (k best : Nat) : Prop := best < 2 ^ l.length ∧ AccP (memL l best) ∧ ∀ c, c < k → AccP (memL l c) → wsum (memL l c) < wsum (memL l best) ∨ (wsum (memL l c) = wsum (memL l best) ∧ ((memL l best).length < (memL l c).length ∨ ((memL l best).length = (memL l c).length ∧ c ≤ best)))
theorem selX_zero {α : Type} {n : Nat} : ∀ {l : List α}, selX (bitsB 0 n) l = [] := by
  induction n with
  | zero => intro l; simp [bitsB, selX]
  | succ n ih =>
    intro l
    cases l with
    | nil => simp [bitsB, selX]
    | cons x t => simp [bitsB, selX, ih]
theorem BestN.start {l : List Lo} : BestN l 0 0 := by
  refine ⟨Nat.two_pow_pos _, ?_, fun c h => by omega⟩
  unfold memL
  rw [selX_zero]
  intro i hi
  simp at hi
theorem BestN.skip {l : List Lo} {k best : Nat} (h : BestN l k best) (hs : AccP (memL l k) → wsum (memL l k) < wsum (memL l best) ∨ (wsum (memL l k) = wsum (memL l best) ∧ (memL l best).length < (memL l k).length)) : BestN l (k + 1) best := by
  refine ⟨h.1, h.2.1, fun c hc ha => ?_⟩
  by_cases e : c = k
  · subst e
    rcases hs ha with h1 | ⟨h1, h2⟩
    · exact .inl h1
    · exact .inr ⟨h1, .inl h2⟩
  · exact h.2.2 c (by omega) ha
theorem BestN.take {l : List Lo} {k best : Nat} (h : BestN l k best) (hk : k < 2 ^ l.length) (ha : AccP (memL l k)) (hle : wsum (memL l best) ≤ wsum (memL l k)) (hn : wsum (memL l k) = wsum (memL l best) → (memL l k).length ≤ (memL l best).length) : BestN l (k + 1) k := by
  refine ⟨hk, ha, fun c hc hac => ?_⟩
  by_cases e : c = k
  · subst e; exact .inr ⟨rfl, .inr ⟨rfl, Nat.le_refl _⟩⟩
  · rcases h.2.2 c (by omega) hac with h1 | ⟨h1, h2⟩
    · exact .inl (by omega)
    · by_cases e2 : wsum (memL l k) = wsum (memL l best)
      · have h3 := hn e2
        refine .inr ⟨by omega, ?_⟩
        omega
      · exact .inl (by omega)
end Go.Proofs.Ytijimplcjaeneaa



/- The reference's Chosen and Before. -/
namespace Go.Proofs.Ytijimplcjaeneaa
open Go.AI
set_option maxRecDepth 100000 in
theorem eqInts_spec [Orc] {B : Nat} {H : Heap} {av bv : Value} {a b : List Int} (hB : B ≤ H.n) (ha : Ints H av a) (hb : Ints H bv b) (hn : a.length < 1000000) :
    CallB Try.prog B 37 [av, bv] H (fun v H' => v = .bool (decide (a = b)) ∧ Keep H H') := by
  refine CV.enter callees false (Orc.hv rfl rfl) Try.func37 rfl (by kernel_rfl) (Nat.le_of_ble_eq_true rfl) hB ?_ (Orc.hw rfl rfl)
  by_cases hl : a.length = b.length
  · repeat' first
      | refine CO.cons rfl ?_
      | refine CO.nil ?_
      | refine CV.seq ?_
      | refine CV.region callees ?_
      | refine CV.cond ?_
      | refine CV.block ?_
      | refine CV.skip ?_
      | refine ⟨_, ints_len (by assumption), ?_⟩
      | (refine ⟨fun _ => ?_, fun _ => ?_⟩ <;> first | (exfalso; omega) | skip)
      | fail
    refine CV.loopc ?_
    refine WCv.rounds callees false (α := Nat) (fun i => [(0, av), (1, bv), (5, VI i)]) (fun i Hz => i ≤ a.length ∧ (∀ j, j < i → a[j]! = b[j]!) ∧ Keep H Hz) (fun i => a.length - i) (0) (by repeat' first | exact trivial | refine ⟨rfl, ?_⟩ | refine ⟨slot_int (by (try simp only [Int.toNat_natCast]); omega), ?_⟩) ?_ ?_
    · exact ⟨by omega, fun j hj => by omega, Keep.refl _⟩
    rintro i Hx ⟨hi, hw, kx⟩ hBx
    have hax : Ints Hx av a := Row.keep ha kx
    have hbx : Ints Hx bv b := Row.keep hb kx
    by_cases hi2 : i < a.length
    · have hai : a[(i : Int).toNat]! = a[i]! := rfl
      have hbi : b[(i : Int).toNat]! = b[i]! := rfl
      by_cases e : a[i]! = b[i]!
      · repeat' first
          | refine CO.cons rfl ?_
          | refine CO.nil ?_
          | refine CV.seq ?_
          | refine CV.region callees ?_
          | refine CV.cond ?_
          | refine CV.block ?_
          | refine CV.skip ?_
          | refine CV.draw callees (by decide +kernel) ?_
          | refine CH.cons rfl ?_
          | refine CH.nil ?_
          | refine ⟨_, ints_len (by assumption), ?_⟩
          | refine ⟨_, ints_addr (by assumption) (by omega) (by omega), ?_⟩
          | refine ⟨_, ints_load (by assumption) (by omega) (by omega), ?_⟩
          | refine ⟨(⟨by omega, by omega⟩ : inI64 _), ?_⟩
          | (refine ⟨fun _ => ?_, fun _ => ?_⟩ <;> first | (exfalso; omega) | skip)
          | fail
        refine ⟨(i + 1), (by repeat' first | exact trivial | refine ⟨rfl, ?_⟩ | refine ⟨slot_int (by (try simp only [Int.toNat_natCast]); omega), ?_⟩), (by (try dsimp only); omega), ?_⟩
        refine ⟨by omega, fun j hj => ?_, kx⟩
        by_cases c : j = i
        · rw [c]; exact e
        · exact hw j (by omega)
      · have hne : ¬ a = b := fun h => e (by rw [h])
        rw [decide_eq_false hne]
        repeat' first
          | refine CO.cons rfl ?_
          | refine CO.nil ?_
          | refine CV.seq ?_
          | refine CV.region callees ?_
          | refine CV.cond ?_
          | refine CV.block ?_
          | refine CV.skip ?_
          | refine CV.ret ?_
          | refine CV.draw callees (by decide +kernel) ?_
          | refine CH.cons rfl ?_
          | refine CH.nil ?_
          | refine ⟨_, ints_len (by assumption), ?_⟩
          | refine ⟨_, ints_addr (by assumption) (by omega) (by omega), ?_⟩
          | refine ⟨_, ints_load (by assumption) (by omega) (by omega), ?_⟩
          | (refine ⟨fun _ => ?_, fun _ => ?_⟩ <;> first | (exfalso; omega) | skip)
          | fail
        exact ⟨rfl, rfl, kx⟩
    obtain rfl : i = a.length := by omega
    have heq : a = b := by
      apply List.ext_getElem hl
      intro j h1 h2
      have := hw j h1
      rw [getElem!_pos a j h1, getElem!_pos b j h2] at this
      exact this
    rw [decide_eq_true heq]
    repeat' first
      | refine CO.cons rfl ?_
      | refine CO.nil ?_
      | refine CV.seq ?_
      | refine CV.region callees ?_
      | refine CV.cond ?_
      | refine CV.exit ?_
      | refine CV.ret ?_
      | refine ⟨_, ints_len (by assumption), ?_⟩
      | (refine ⟨fun _ => ?_, fun _ => ?_⟩ <;> first | (exfalso; omega) | skip)
      | fail
    exact ⟨rfl, rfl, kx⟩
  · have hne : ¬ a = b := fun h => hl (by rw [h])
    rw [decide_eq_false hne]
    repeat' first
      | refine CO.cons rfl ?_
      | refine CO.nil ?_
      | refine CV.seq ?_
      | refine CV.region callees ?_
      | refine CV.cond ?_
      | refine CV.ret ?_
      | refine ⟨_, ints_len (by assumption), ?_⟩
      | (refine ⟨fun _ => ?_, fun _ => ?_⟩ <;> first | (exfalso; omega) | skip)
      | fail
    exact ⟨rfl, rfl, Keep.refl _⟩
end Go.Proofs.Ytijimplcjaeneaa

