/- Several texts in one. -/
import Derived.Test.YtkfaiokiaahbaaaDoorY6
import Derived.Test.YtkfaiokiaahbaaaDoorEu
set_option linter.unusedVariables false
set_option linter.unusedSimpArgs false
/- Levels and charts: what follows from lists alone. -/
namespace Go.Proofs.YtkfaiokiaahbaaaDoor
open Go.AI
/-- Where a block begins and where it ends, as far as a place. -/
def firstTo (xs : List Int) (b : Int) : Nat → Int
  | 0 => -1
  | i + 1 => if firstTo xs b i = -1 ∧ xs[i]! = b then i else firstTo xs b i
def lastTo (xs : List Int) (b : Int) : Nat → Int
  | 0 => -1
  | i + 1 => if xs[i]! = b then i else lastTo xs b i
def fst (xs : List Int) (b : Int) : Int := firstTo xs b xs.length
def lst (xs : List Int) (b : Int) : Int := lastTo xs b xs.length
/-- The place of a packet lies within its block. -/
structure Span (xs : List Int) (b : Int) : Prop where
  f0 : 0 ≤ fst xs b
  fl : fst xs b ≤ lst xs b
  ln : lst xs b < xs.length
  fa : xs[(fst xs b).toNat]! = b
  la : xs[(lst xs b).toNat]! = b
  of : ∀ i : Nat, i < xs.length → xs[i]! = b → fst xs b ≤ i ∧ (i : Int) ≤ lst xs b
/-- The level of a block above those before it. -/
def levA (xs : List Int) (L : List Int) (b : Nat) : Nat → Int
  | 0 => 1
  | a + 1 => if fst xs b < lst xs a then max (levA xs L b a) (L[a]! + 1) else levA xs L b a
def levs (xs : List Int) : Nat → List Int
  | 0 => []
  | b + 1 => levs xs b ++ [levA xs (levs xs b) b b]
def lev (xs : List Int) (b : Nat) : Int := levA xs (levs xs b) b b
/-- How many blocks. -/
def bk (xs : List Int) : Nat := (blkFrom xs 0).toNat
/-- Whether a beam is at a character of a row. -/
def cvr (xs : List Int) (row c : Int) : Nat → Bool
  | 0 => false
  | k + 1 => cvr xs row c k || (lev xs k == row && decide (fst xs k < lst xs k) && decide (2 * fst xs k ≤ c) && decide (c ≤ 2 * lst xs k))
/-- A character of a row of the chart. -/
def ch (xs : List Int) (row c : Int) : Int :=
  if c % 2 = 1 then (if cvr xs row c (bk xs) then 45 else 32)
  else if row < lev xs (xs[(c / 2).toNat]!).toNat then (if cvr xs row c (bk xs) then 45 else 32)
  else if row = lev xs (xs[(c / 2).toNat]!).toNat then (if cvr xs row c (bk xs) then 111 else 124)
  else (if cvr xs row c (bk xs) then 120 else 124)
end Go.Proofs.YtkfaiokiaahbaaaDoor


/- The beams of a partition. -/
namespace Go.AI
/-- The first elements of a slice. -/
def preS (v : Value) (i : Nat) : Value :=
  match v with
  | .slice (some a) _ c => .slice (some a) i c
  | v => v
theorem OwnS.slice {P : Program} {t e : TypeId} {s : Nat} {H : Heap} {v : Value} {rs : List (List Value)} {B : Nat} (h : OwnS e s H v rs B) (ht : P.underlying t = some (.slice e)) (hs : sizeB P e = some s) {i : Int} {kd : IntKind} (h0 : 0 ≤ i) (h1 : i ≤ rs.length) :
    aslice P t v none (some (some (.int kd i))) = some (preS v i.toNat) := by
  rcases h.2 with ⟨rfl, rfl⟩ | ⟨b, rfl, h2, h3, h4⟩
  · simp at h1
    have : i = 0 := by omega
    subst this
    simp [aslice, ht, hs, bound, preS]
  · simp [aslice, ht, hs, bound, h0, h1, preS]
theorem OwnS.pre {e : TypeId} {s : Nat} {H : Heap} {v : Value} {rs : List (List Value)} {B : Nat} (h : OwnS e s H v rs B) {i : Nat} (hi : i ≤ rs.length) : RowS s H (preS v i) (rs.take i) := by
  have hl : ∀ r ∈ rs.take i, r.length = s := fun r hr => h.1 r (List.mem_of_mem_take hr)
  refine ⟨hl, ?_⟩
  rcases h.2 with ⟨rfl, rfl⟩ | ⟨b, rfl, h2, h3, h4⟩
  · exact .inl ⟨rfl, by simp⟩
  · have hm : i * s ≤ rs.length * s := Nat.mul_le_mul_right _ hi
    refine .inr (.inr ⟨b, 0, 0, _, e, 2, ?_, h3, h4, by simp, ?_, fun j q r w hj hq => ?_⟩)
    · rw [List.length_take, Nat.min_eq_left hi]; rfl
    · rw [List.length_take, Nat.min_eq_left hi, flat_len h.1]; omega
    · rw [List.getElem?_take] at hj
      split at hj
      · rw [Nat.zero_add]; exact flat_at h.1 hj hq
      · cases hj
end Go.AI
namespace Go.Proofs.YtkfaiokiaahbaaaDoor
open Go.AI
end Go.Proofs.YtkfaiokiaahbaaaDoor


/- Levels, and the characters of a chart, by the program. -/
namespace Go.AI
/-- The bytes of a list of numbers. -/
def strOf (l : List Int) : ByteArray := ⟨(l.map fun x => UInt8.ofNat x.toNat).toArray⟩
abbrev V8 (n : Int) : Value := .int .u8 n
theorem bytesOf_list : ∀ (l : List Int) (acc : ByteArray), bytesOfCells (l.map V8) acc = some ⟨acc.data ++ (l.map fun x => UInt8.ofNat x.toNat).toArray⟩
  | [], acc => by simp [bytesOfCells]
  | x :: l, acc => by
    simp only [List.map_cons, bytesOfCells]
    rw [bytesOf_list l]
    congr 2
    simp [ByteArray.push]
theorem conv_str {P : Program} {src dst e : TypeId} (hs : P.underlying src = some (.slice e)) (hd : P.underlying dst = some .string) (h8 : isU8 P e = true) {H : Heap} {v : Value} {l : List Int} {B : Nat} (h : Own e H v (l.map V8) B) : aconvert P H src dst v = some (.string (strOf l)) := by
  rcases h with ⟨rfl, h0⟩ | ⟨b, rfl, h2, h3, h4⟩
  · have : l = [] := by simpa using h0
    subst this
    simp only [aconvert, hs, hd, h8, if_true]
    rfl
  · simp only [aconvert, hs, hd, h8, if_true, h4]
    rw [if_pos (by simp), List.drop_zero, List.take_of_length_le (by simp), bytesOf_list]
    simp [strOf]
end Go.AI
namespace Go.Proofs.YtkfaiokiaahbaaaDoor
open Go.AI
theorem un9 : Tryd.prog.underlying 9 = some .string := by kernel_rfl
theorem un93 : Tryd.prog.underlying 93 = some (.slice 5) := by kernel_rfl
theorem one5 : oneBB Tryd.prog 5 = some (.int .u8 0, 1) := by kernel_rfl
theorem sz5 : sizeB Tryd.prog 5 = some 1 := by kernel_rfl
theorem u8_5 : isU8 Tryd.prog 5 = true := by kernel_rfl
end Go.Proofs.YtkfaiokiaahbaaaDoor


/- The chart that the program draws. -/
namespace Go.Proofs.YtkfaiokiaahbaaaDoor
open Go.AI
theorem own_plain {e : TypeId} {H : Heap} {v : Value} {vs : List Value} {B : Nat} (h : Own e H v vs B) (hn : vs ≠ []) : plain v = false := by
  rcases h with ⟨_, h0⟩ | ⟨b, rfl, _⟩
  · exact absurd h0 hn
  · cases vs with
    | nil => exact absurd rfl hn
    | cons _ _ => rfl
theorem step1_convStr {P : Program} {tm : Tm} {H : Heap} {o : Oper} {s d : TypeId} {x : Operand} {v r : Value} (ho : o.op = .convert s d x) (hx : ev P tm x = some v) (hv : plain v = false) (h : aconvert P H s d v = some r) : step1 P tm H o = some (r, H, H.n) := by
  simp only [step1, ho, sConvert, hx, hv, h, ret]
  rfl
theorem bytes_ask {H : Heap} {K : Value → Heap → Prop} {B B0 : Nat} {x : Value} {y : Int} {l : List Int} (hx : Own 5 H x (l.map V8) B0) (hB0 : B0 ≤ H.n) (hB : B ≤ B0) (hn : l.length < 1000000)
    (hk : ∀ r H', Own 5 H' r ((l ++ [y]).map V8) B0 → KeepBut x H H' → (∀ c, blkOf r = some c → H.n ≤ c) → K r H') :
    ∃ v H' b, aappend Tryd.prog (H.new (.cells [.int .u8 y] 5 2)) #[93, 93] x (.slice (some ⟨H.n, 0, none⟩) 1 0) = some (v, H', b) ∧ B ≤ b ∧ K v H' :=
  append_ask un93 one5 (by omega) hx hB0 hB (by simpa using hn) fun r H' h => hk r H' (by simpa using h)
end Go.Proofs.YtkfaiokiaahbaaaDoor

