
/- All orders, handed out one by one. -/
import Derived.Test.YtlamceokhbigaaaT7g
set_option linter.unusedVariables false
set_option linter.unusedSimpArgs false
namespace Go.Proofs.Ytlamceokhbigaaa
open Go.AI
theorem one_at {α : Type} [Inhabited α] {l : List α} {i : Nat} (h : i < l.length) : l.take (i + 1) = l.take i ++ [l[i]!] := by
  rw [List.take_add_one, List.getElem?_eq_getElem h, getElem!_pos l i h]; rfl
/-- All lists that begin so, of so many more numbers, each once. -/
def fillL (n : Nat) : Nat → List Int → List (List Int)
  | 0, pre => [pre]
  | r + 1, pre => (List.range n).flatMap fun (x : Nat) => if (x : Int) ∈ pre then [] else fillL n r (pre ++ [(x : Int)])
theorem Pre.snoc {n : Nat} {o : List Int} {x : Nat} (h : Pre n o) (hx : x < n) (hn : (x : Int) ∉ o) (hl : o.length < n) : Pre n (o ++ [(x : Int)]) := by
  refine ⟨?_, fun y hy => ?_, by rw [List.length_append, List.length_singleton]; omega⟩
  · rw [List.nodup_append]
    refine ⟨h.nd, by simp, fun a ha b hb => ?_⟩
    rw [List.mem_singleton] at hb
    subst hb
    exact fun e => hn (e ▸ ha)
  · rcases List.mem_append.1 hy with h1 | h1
    · exact h.r y h1
    · rw [List.mem_singleton] at h1
      subst h1
      omega
theorem Pre.nil {n : Nat} : Pre n [] := ⟨by simp, fun x hx => by simp at hx, by simp⟩
theorem fillL_pre {n : Nat} : ∀ {r : Nat} {pre o : List Int}, Pre n pre → pre.length + r = n → o ∈ fillL n r pre → Pre n o ∧ o.length = n
  | 0, pre, o, h, hl, ho => by
    simp only [fillL, List.mem_singleton] at ho
    subst ho
    exact ⟨h, by omega⟩
  | r + 1, pre, o, h, hl, ho => by
    simp only [fillL, List.mem_flatMap] at ho
    obtain ⟨x, hx, ho⟩ := ho
    have hx' := List.mem_range.1 hx
    split at ho
    · cases ho
    · rename_i hn
      exact fillL_pre (h.snoc hx' hn (by omega)) (by rw [List.length_append, List.length_singleton]; omega) ho
abbrev yT : TypeId := 79
abbrev fT : TypeId := 95
abbrev gT : TypeId := 112
theorem agY : isAggB Try.prog yT = some false := by kernel_rfl
theorem agF : isAggB Try.prog fT = some false := by kernel_rfl
theorem agG : isAggB Try.prog gT = some false := by kernel_rfl
theorem szG : sizeB Try.prog gT = some 1 := by kernel_rfl
theorem sz26 : sizeB Try.prog 26 = some 1 := by kernel_rfl
theorem zcG : zeroCellsW Try.prog gT = some [.nilFunc] := by kernel_rfl
theorem alG {H : Heap} : sAlloc Try.prog H gT = some (.pointer (some ⟨H.n, 0, none⟩), H.new (.cells [.nilFunc] gT 1), H.n) := alloc_ofW zcG
theorem zc26 : zeroCellsW Try.prog 26 = some [nilS] := by kernel_rfl
theorem al26 {H : Heap} : sAlloc Try.prog H 26 = some (.pointer (some ⟨H.n, 0, none⟩), H.new (.cells [nilS] 26 1), H.n) := alloc_ofW zc26
/-- The function that fills the places from one on. -/
abbrev fillV (c b : Nat) : Value := .func (.func 146) #[] #[.pointer (some ⟨c, 0, none⟩), .pointer (some ⟨b, 0, none⟩), .pointer (some ⟨b + 2, 0, none⟩), .pointer (some ⟨c + 1, 0, none⟩), .pointer (some ⟨c + 2, 0, none⟩), .pointer (some ⟨b + 3, 0, none⟩)]
/-- What is captured. -/
structure Caps (c n : Nat) (X : Heap) : Prop where
  a : X.get c = some (.cells [VI n] 3 1)
  b : X.get (c + 1) = some (.cells [VI n] 3 1)
  f : X.get (c + 2) = some (.cells [fnV 129] fT 1)
/-- What is its own. -/
structure Mine (c b l n : Nat) (xs : List Int) (X : Heap) : Prop where
  y : X.get b = some (.cells [.func (.yield l) #[] #[]] yT 1)
  a : X.get (b + 1) = some (.cells (xs.map VI) 3 2)
  l : X.get (b + 2) = some (.cells [.slice (some ⟨b + 1, 0, none⟩) n 0] 26 1)
  f : X.get (b + 3) = some (.cells [fillV c b] gT 1)
  n : xs.length = n
theorem Mine.row {c b l n : Nat} {xs : List Int} {X : Heap} (h : Mine c b l n xs X) (hb : b + 1 < X.n) : Ints X (.slice (some ⟨b + 1, 0, none⟩) n 0) xs :=
  .inr (.inr ⟨b + 1, 0, 0, xs.map VI, 3, 2, by rw [List.length_map, h.n], hb, h.a, by decide, by simp, fun j w hj => by simpa using hj⟩)
theorem make26 {H : Heap} {n : Nat} (h : n ≤ 7) : amakeSlice Try.prog H 26 (VI n) (VI n) = some (.slice (some ⟨H.n, 0, none⟩) n 0, H.new (.cells ((List.replicate n (0 : Int)).map VI) 3 2), H.n) := by
  have := make_row (H := H) un22 one3 (by decide) n (by omega)
  rw [this]
  simp
end Go.Proofs.Ytlamceokhbigaaa

