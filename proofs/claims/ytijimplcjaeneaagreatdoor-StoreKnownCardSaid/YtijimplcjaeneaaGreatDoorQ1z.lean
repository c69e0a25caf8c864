
/- Picked out of A1.tpl A2.tpl A7.tpl B1.tpl B2.tpl B3.tpl K0s.tpl D1.tpl Sa.tpl S1.tpl S3.tpl S4.tpl S5.tpl S6.tpl Ua.tpl Sd.tpl Sf.tpl. -/
import Derived.Test.YtijimplcjaeneaaGreatDoorA0z
import Derived.Test.YtijimplcjaeneaaGreatDoorX4
import Derived.Test.YtijimplcjaeneaaGreatDoorEu
set_option linter.unusedVariables false
set_option linter.unusedSimpArgs false
namespace Go.Proofs.YtijimplcjaeneaaGreatDoor
open Go.AI

end Go.Proofs.YtijimplcjaeneaaGreatDoor

namespace Go.Proofs.YtijimplcjaeneaaGreatDoor
open Go.AI

abbrev VI : Int → Value := Value.int .i64

end Go.Proofs.YtijimplcjaeneaaGreatDoor

namespace Go.Proofs.YtijimplcjaeneaaGreatDoor
open Go.AI

end Go.Proofs.YtijimplcjaeneaaGreatDoor

namespace Go.Proofs.YtijimplcjaeneaaGreatDoor
open Go.AI
theorem un72 : Tryz.prog.underlying 69 = some (.int .u64) := by kernel_rfl

/-- A box: a variable of one word. -/
def Box (b : Nat) (H : Heap) : Prop := b < H.n ∧ ∃ w, H.get b = some (.cells [.int .u64 w] 71 1)
theorem Box.keepX {b : Nat} {H : Heap} {r : Int} (h : Box b H) : Box b (H.set b (.cells [.int .u64 r] 71 1)) := ⟨h.1, r, Heap.get_set_eq _ _ _⟩
theorem Box.keep {b : Nat} {H H' : Heap} (h : Box b H) (k : Keep H H') : Box b H' := ⟨Nat.lt_of_lt_of_le h.1 k.1, by obtain ⟨w, hw⟩ := h.2; exact ⟨w, by rw [k.2 b h.1]; exact hw⟩⟩
theorem KeepX.set {b : Nat} (H : Heap) (o : AObj) : KeepX b H (H.set b o) := ⟨Nat.le_refl _, fun c _ hc => Heap.get_set_ne _ _ (fun h => hc h.symm)⟩
theorem wrapU {n : Int} (h0 : 0 ≤ n) (h1 : n < 18446744073709551616) : IntKind.wrap .u64 n = n := by
  simp only [IntKind.wrap, IntKind.signed, IntKind.bits]
  simp
  omega
end Go.Proofs.YtijimplcjaeneaaGreatDoor

namespace Go.Proofs.YtijimplcjaeneaaGreatDoor
open Go.AI

end Go.Proofs.YtijimplcjaeneaaGreatDoor

namespace Go.Proofs.YtijimplcjaeneaaGreatDoor
open Go.AI
theorem Box.keepBut {b : Nat} {x : Value} {H H' : Heap} (h : Box b H) (k : KeepBut x H H') (hx : blkOf x ≠ some b) : Box b H' :=
  ⟨Nat.lt_of_lt_of_le h.1 k.le, by obtain ⟨w, hw⟩ := h.2; exact ⟨w, by rw [k.get b h.1 hx]; exact hw⟩⟩
theorem own_box {e : TypeId} {H H' : Heap} {b : Nat} {v : Value} {vs : List Value} {B : Nat} (h : Own e H v vs B) (k : KeepX b H H') (hb : Box b H) : Own e H' v vs B := by
  obtain ⟨w, hw⟩ := hb.2; exact h.keepX k hw
theorem push_ask {H : Heap} {K : Value → Heap → Prop} {B B0 : Nat} {x : Value} {y : Int} {l : List Int} (hx : Own 3 H x (l.map VI) B0) (hB0 : B0 ≤ H.n) (hB : B ≤ B0) (hn : l.length < 1000000)
    (hk : ∀ r H', Own 3 H' r ((l ++ [y]).map VI) B0 → KeepBut x H H' → (∀ c, blkOf r = some c → H.n ≤ c) → K r H') :
    ∃ v H' b, aappend Tryz.prog (H.new (.cells [.int .i64 y] 3 2)) #[27, 27] x (.slice (some ⟨H.n, 0, none⟩) 1 0) = some (v, H', b) ∧ B ≤ b ∧ K v H' :=
  append_ask un22 one3 (by omega) hx hB0 hB (by simpa using hn) fun r H' h => hk r H' (by simpa using h)
end Go.Proofs.YtijimplcjaeneaaGreatDoor

namespace Go.Proofs.YtijimplcjaeneaaGreatDoor
open Go.AI
end Go.Proofs.YtijimplcjaeneaaGreatDoor
namespace Go.AI
open Go.Proofs.YtijimplcjaeneaaGreatDoor
theorem slot_int {k : IntKind} {a b : Int} (h : a = b) : Value.int k a = Value.int k b := by rw [h]
theorem Own.box {b : Nat} {e : TypeId} {H H' : Heap} {v : Value} {vs : List Value} {B : Nat} (h : Own e H v vs B) (k : KeepX b H H') (hb : Box b H) : Own e H' v vs B := own_box h k hb
end Go.AI

namespace Go.AI
def zeroCells (P : Program) (t : TypeId) : Option (List Value) :=
  match (P.info? t).bind (·.zero) with
  | some z => bif z.cells.toList.all scalar then some z.cells.toList else none
  | none => none
end Go.AI
namespace Go.Proofs.YtijimplcjaeneaaGreatDoor
open Go.AI
end Go.Proofs.YtijimplcjaeneaaGreatDoor

namespace Go.Proofs.YtijimplcjaeneaaGreatDoor
open Go.AI
/-- All its numbers differ. -/
def Dist (l : List Int) : Prop := ∀ a b, a < l.length → b < l.length → l[a]! = l[b]! → a = b
theorem get_set {l : List Int} {i a : Nat} {x : Int} (ha : a < l.length) : (l.set i x)[a]! = if i = a then x else l[a]! := by
  rw [getElem!_pos _ a (by rw [List.length_set]; exact ha), List.getElem_set, getElem!_pos l a ha]
def sw (i k a : Nat) : Nat := if k = a then i else if i = a then k else a
theorem get_swap {l : List Int} {i k a : Nat} (ha : a < l.length) : ((l.set i l[k]!).set k l[i]!)[a]! = l[sw i k a]! := by
  rw [get_set (by rw [List.length_set]; exact ha), get_set ha, sw]
  split
  · rfl
  · split <;> rfl
theorem sw_lt {n i k a : Nat} (hi : i < n) (hk : k < n) (ha : a < n) : sw i k a < n := by
  unfold sw; split
  · exact hi
  · split
    · exact hk
    · exact ha
theorem sw_inj {i k a b : Nat} (h : sw i k a = sw i k b) : a = b := by
  unfold sw at h
  split at h <;> split at h <;> (try split at h) <;> (try split at h) <;> omega
theorem Dist.swap {l : List Int} {i k : Nat} (h : Dist l) (hi : i < l.length) (hk : k < l.length) : Dist ((l.set i l[k]!).set k l[i]!) := by
  intro a b ha hb e
  rw [List.length_set, List.length_set] at ha hb
  rw [get_swap ha, get_swap hb] at e
  exact sw_inj (h _ _ (sw_lt hi hk ha) (sw_lt hi hk hb) e)
/-- The numbers below n in some order. -/
def OrderL (l : List Int) : Prop := Dist l ∧ ∀ a, a < l.length → 0 ≤ l[a]! ∧ l[a]! < l.length
theorem OrderL.swap {l : List Int} {i k : Nat} (h : OrderL l) (hi : i < l.length) (hk : k < l.length) : OrderL ((l.set i l[k]!).set k l[i]!) := by
  refine ⟨h.1.swap hi hk, fun a ha => ?_⟩
  rw [List.length_set, List.length_set] at ha ⊢
  rw [get_swap ha]
  exact h.2 _ (sw_lt hi hk ha)
theorem OrderL.push {l : List Int} (h : OrderL l) : OrderL (l ++ [(l.length : Int)]) := by
  have g1 : ∀ a, a < l.length → (l ++ [(l.length : Int)])[a]! = l[a]! := fun a ha => by
    rw [getElem!_pos _ a (by simp; omega), List.getElem_append_left ha, getElem!_pos l a ha]
  have g2 : (l ++ [(l.length : Int)])[l.length]! = l.length := by
    rw [getElem!_pos _ _ (by simp)]; simp
  refine ⟨fun a b ha hb e => ?_, fun a ha => ?_⟩
  · rw [List.length_append, List.length_singleton] at ha hb
    by_cases h1 : a < l.length <;> by_cases h2 : b < l.length
    · rw [g1 a h1, g1 b h2] at e; exact h.1 a b h1 h2 e
    · have hb' : b = l.length := by omega
      subst hb'
      rw [g1 a h1, g2] at e
      have := h.2 a h1; omega
    · have ha' : a = l.length := by omega
      subst ha'
      rw [g1 b h2, g2] at e
      have := h.2 b h2; omega
    · omega
  · rw [List.length_append, List.length_singleton] at ha ⊢
    by_cases h1 : a < l.length
    · rw [g1 a h1]; have := h.2 a h1; omega
    · have ha' : a = l.length := by omega
      subst ha'
      rw [g2]; omega
end Go.Proofs.YtijimplcjaeneaaGreatDoor

namespace Go.Proofs.YtijimplcjaeneaaGreatDoor
open Go.AI
/-- One cell of a variable. -/
theorem cell_load {H : Heap} {b i : Nat} {cs : List Value} {e t : TypeId} {k : Nat} {x : Value} (ha : isAggB Tryz.prog t = some false) (hg : H.get b = some (.cells cs e k)) (hx : cs[i]? = some x) : aload Tryz.prog t H (.pointer (some ⟨b, i, none⟩)) = some x := by
  simp [aload, hg, ha, hx]
theorem ag22 : isAggB Tryz.prog 27 = some false := by kernel_rfl
def ptsOk (a c w n l : Int) : Prop := (0 ≤ a ∧ a ≤ 1000) ∧ (0 ≤ c ∧ c ≤ 1000) ∧ (0 ≤ w ∧ w ≤ 1000) ∧ (0 ≤ n ∧ n ≤ 1000) ∧ 0 ≤ l ∧ l ≤ 1000
instance (a c w n l : Int) : Decidable (ptsOk a c w n l) := by unfold ptsOk; infer_instance
end Go.Proofs.YtijimplcjaeneaaGreatDoor

namespace Go.AI
end Go.AI
namespace Go.Proofs.YtijimplcjaeneaaGreatDoor
open Go.AI
end Go.Proofs.YtijimplcjaeneaaGreatDoor

namespace Go.Proofs.YtijimplcjaeneaaGreatDoor
open Go.AI
theorem keep_put {H H1 H2 : Heap} {b : Nat} (k : Keep H H1) (hb : H.n ≤ b) (ho : ∀ c, c ≠ b → H2.get c = H1.get c) (hn : H2.n = H1.n) : Keep H H2 :=
  ⟨by rw [hn]; exact k.1, fun c hc => by rw [ho c (by omega)]; exact k.2 c hc⟩
end Go.Proofs.YtijimplcjaeneaaGreatDoor

namespace Go.Proofs.YtijimplcjaeneaaGreatDoor
open Go.AI
end Go.Proofs.YtijimplcjaeneaaGreatDoor

namespace Go.Proofs.YtijimplcjaeneaaGreatDoor
open Go.AI
end Go.Proofs.YtijimplcjaeneaaGreatDoor

namespace Go.AI
section
variable {P : Program} {H : Heap} {t e : TypeId} {z : Value} {by' : Nat}
end
end Go.AI
namespace Go.Proofs.YtijimplcjaeneaaGreatDoor
open Go.AI
end Go.Proofs.YtijimplcjaeneaaGreatDoor

namespace Go.Proofs.YtijimplcjaeneaaGreatDoor
open Go.AI
variable {ts ws us : List Int}
end Go.Proofs.YtijimplcjaeneaaGreatDoor

namespace Go.Proofs.YtijimplcjaeneaaGreatDoor
open Go.AI
end Go.Proofs.YtijimplcjaeneaaGreatDoor


