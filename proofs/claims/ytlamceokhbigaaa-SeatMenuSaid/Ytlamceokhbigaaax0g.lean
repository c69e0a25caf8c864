
/- Menus, as numbers. -/
import Derived.Test.Ytlamceokhbigaaau0g
set_option linter.unusedVariables false
set_option linter.unusedSimpArgs false
namespace Go.Proofs.Ytlamceokhbigaaa
open Go.AI
structure Di where
  tn : Int
  pa : Int
  co : Int
deriving Inhabited
/-- All menus that begin so, of so many more turns, in order. -/
def growM (ds : List Di) : Nat → List Int → List (List Int)
  | 0, pre => [pre]
  | r + 1, pre => (List.range ds.length).flatMap fun (x : Nat) => if ds[x]!.tn = (pre.length : Int) then growM ds r (pre ++ [(x : Int)]) else []
def menusL (ds : List Di) (turns : Nat) : List (List Int) := growM ds turns []
/-- A dish of each turn from one on. -/
def FitM (ds : List Di) (k : Nat) (m : List Int) : Prop := ∀ i, k ≤ i → i < m.length → 0 ≤ m[i]! ∧ m[i]! < ds.length ∧ ds[m[i]!.toNat]!.tn = (i : Int)
theorem mem_growM {ds : List Di} : ∀ {r : Nat} {pre m : List Int}, m ∈ growM ds r pre ↔ pre <+: m ∧ m.length = pre.length + r ∧ FitM ds pre.length m
  | 0, pre, m => by
    rw [growM, List.mem_singleton]
    constructor
    · rintro rfl
      exact ⟨List.prefix_refl _, rfl, fun i h1 h2 => by omega⟩
    · rintro ⟨h1, h2, _⟩
      exact (h1.eq_of_length (by omega)).symm
  | r + 1, pre, m => by
    rw [growM, List.mem_flatMap]
    constructor
    · rintro ⟨x, hx, hm⟩
      have hx' := List.mem_range.1 hx
      split at hm
      · rename_i ht
        obtain ⟨h1, h2, h3⟩ := mem_growM.1 hm
        rw [List.length_append, List.length_singleton] at h2 h3
        refine ⟨(List.prefix_append _ _).trans h1, by omega, fun i hi1 hi2 => ?_⟩
        by_cases e : i = pre.length
        · obtain ⟨t, rfl⟩ := h1
          have em : (pre ++ [(x : Int)] ++ t)[i]! = (x : Int) := by
            rw [getElem!_pos _ i hi2, List.getElem_append_left (by rw [List.length_append, List.length_singleton]; omega)]
            simp [e]
          rw [em]
          exact ⟨by omega, by omega, by rw [show ((x : Int)).toNat = x from rfl, ht, e]⟩
        · exact h3 i (by omega) hi2
      · cases hm
    · rintro ⟨⟨t, rfl⟩, h2, h3⟩
      cases t with
      | nil => rw [List.append_nil] at h2; omega
      | cons y t =>
        have hi : pre.length < (pre ++ y :: t).length := by rw [List.length_append, List.length_cons]; omega
        have h4 := h3 pre.length (Nat.le_refl _) hi
        have em : (pre ++ y :: t)[pre.length]! = y := by
          rw [getElem!_pos (pre ++ y :: t) pre.length hi, List.getElem_append_right (Nat.le_refl _)]
          simp
        rw [em] at h4
        refine ⟨y.toNat, List.mem_range.2 (by omega), ?_⟩
        have hy : ((y.toNat : Nat) : Int) = y := by omega
        rw [if_pos h4.2.2, hy]
        refine mem_growM.2 ⟨⟨t, by simp⟩, by rw [List.length_append (bs := [y]), List.length_singleton]; omega, fun i hi1 hi2 => ?_⟩
        rw [List.length_append, List.length_singleton] at hi1
        exact h3 i (by omega) hi2
theorem mem_menus {ds : List Di} {turns : Nat} {m : List Int} : m ∈ menusL ds turns ↔ m.length = turns ∧ FitM ds 0 m := by
  unfold menusL
  rw [mem_growM, List.length_nil, Nat.zero_add]
  exact ⟨fun h => h.2, fun h => ⟨List.nil_prefix, h⟩⟩
/-- Whether a guest surely can eat a dish. -/
def sureB (g : Gu) (d : Di) : Bool := (d.pa.toNat &&& g.ne.toNat == 0) && (d.pa.toNat &&& g.ma.toNat == 0)
def cntS (g : Gu) (ds : List Di) (m : List Int) : Nat := (m.filter fun x => sureB g ds[x.toNat]!).length
def enM (gs : List Gu) (ds : List Di) (need : Int) (m : List Int) : Bool := gs.all fun g => decide (need ≤ (cntS g ds m : Int))
def costM (ds : List Di) (m : List Int) : Int := sumI (m.map fun x => ds[x.toNat]!.co)
def mstep (gs : List Gu) (ds : List Di) (need : Int) (s : Option (List Int × Int)) (m : List Int) : Option (List Int × Int) :=
  match s with
  | none => if enM gs ds need m = true then some (m, costM ds m) else none
  | some (b, c) => if costM ds m < c ∧ enM gs ds need m = true then some (m, costM ds m) else some (b, c)
def menF (gs : List Gu) (ds : List Di) (need : Int) (F : List (List Int)) : Option (List Int × Int) := F.foldl (mstep gs ds need) none
theorem menF_snoc {gs : List Gu} {ds : List Di} {need : Int} {F : List (List Int)} {m : List Int} : menF gs ds need (F ++ [m]) = mstep gs ds need (menF gs ds need F) m := by
  unfold menF
  rw [List.foldl_append]
  rfl
/-- What the best menu is. -/
theorem menF_spec {gs : List Gu} {ds : List Di} {need : Int} : ∀ (k : Nat) (F : List (List Int)), F.length = k → (menF gs ds need F = none ∧ ∀ m ∈ F, enM gs ds need m = false) ∨ ∃ b, menF gs ds need F = some (b, costM ds b) ∧ b ∈ F ∧ enM gs ds need b = true ∧ ∀ m ∈ F, enM gs ds need m = true → costM ds b ≤ costM ds m
  | 0, F, h => by
    obtain rfl := List.eq_nil_of_length_eq_zero h
    exact .inl ⟨rfl, fun m hm => by cases hm⟩
  | k + 1, F, h => by
    rcases List.eq_nil_or_concat F with rfl | ⟨F', m, rfl⟩
    · simp at h
    · rw [List.concat_eq_append] at h ⊢
      rw [List.length_append, List.length_singleton] at h
      rw [menF_snoc]
      rcases menF_spec (gs := gs) (ds := ds) (need := need) k F' (by omega) with ⟨e, h1⟩ | ⟨b, e, h1, h2, h3⟩
      · rw [e]
        unfold mstep
        by_cases c : enM gs ds need m = true
        · right
          refine ⟨m, by dsimp only; rw [if_pos c], by simp, c, fun q hq hc => ?_⟩
          rcases List.mem_append.1 hq with hq | hq
          · rw [h1 q hq] at hc; cases hc
          · rw [List.mem_singleton] at hq; rw [hq]; exact Int.le_refl _
        · left
          refine ⟨by dsimp only; rw [if_neg c], fun q hq => ?_⟩
          rcases List.mem_append.1 hq with hq | hq
          · exact h1 q hq
          · rw [List.mem_singleton] at hq; rw [hq]; exact Bool.eq_false_iff.2 c
      · right
        rw [e]
        unfold mstep
        by_cases c : costM ds m < costM ds b ∧ enM gs ds need m = true
        · refine ⟨m, by dsimp only; rw [if_pos c], by simp, c.2, fun q hq hc => ?_⟩
          rcases List.mem_append.1 hq with hq | hq
          · have := h3 q hq hc; omega
          · rw [List.mem_singleton] at hq; rw [hq]; exact Int.le_refl _
        · refine ⟨b, by dsimp only; rw [if_neg c], by simp [h1], h2, fun q hq hc => ?_⟩
          rcases List.mem_append.1 hq with hq | hq
          · exact h3 q hq hc
          · rw [List.mem_singleton] at hq
            rw [hq] at hc ⊢
            by_cases c2 : costM ds m < costM ds b
            · exact absurd ⟨c2, hc⟩ c
            · omega
theorem enM_less {gs : List Gu} {ds : List Di} {need need' : Int} {m : List Int} (h : need' ≤ need) (he : enM gs ds need m = true) : enM gs ds need' m = true := by
  unfold enM at he ⊢
  rw [List.all_eq_true] at he ⊢
  intro g hg
  have := of_decide_eq_true (he g hg)
  exact decide_eq_true (by omega)
end Go.Proofs.Ytlamceokhbigaaa
