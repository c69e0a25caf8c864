/- Several texts in one. -/
import Derived.Test.YtkfaiokiaahbaaaDoorY7
set_option linter.unusedVariables false
set_option linter.unusedSimpArgs false
/- The chart that the reference draws. -/
namespace Go.Proofs.YtkfaiokiaahbaaaDoor
open Go.AI
end Go.Proofs.YtkfaiokiaahbaaaDoor


/- The reference's drawing. -/
namespace Go.Proofs.YtkfaiokiaahbaaaDoor
open Go.AI
end Go.Proofs.YtkfaiokiaahbaaaDoor


/- Strings as lists of bytes; rows of a text. -/
namespace Go.AI
theorem strOf_size (l : List Int) : (strOf l).size = l.length := by simp [strOf, ByteArray.size]
section
variable {P : Program} {H : Heap} {t : TypeId} {l : List Int}
theorem str_len (ht : P.underlying t = some .string) : alen P H t (.string (strOf l)) = some (.int .i64 l.length) := by
  simp [alen, ht, strOf_size]
theorem str_index (ht : P.underlying t = some .string) (hb : ∀ x ∈ l, 0 ≤ x ∧ x < 256) {i : Int} {k : IntKind} (h0 : 0 ≤ i) (h1 : i < l.length) : aindex P t (.string (strOf l)) (.int k i) = some (.int .u8 l[i.toNat]!) := by
  have hlt : i.toNat < l.length := by omega
  have hm := hb l[i.toNat] (List.getElem_mem hlt)
  have e : (strOf l)[i.toNat]? = some (UInt8.ofNat (l[i.toNat]).toNat) := by
    rw [getElem?_pos _ _ (by rw [strOf_size]; exact hlt)]
    simp [strOf, ByteArray.getElem_eq_getElem_data]
  simp only [aindex, asIdx, ht, e]
  rw [if_pos h0, getElem!_pos l _ hlt]
  congr 2
  simp only [UInt8.toNat_ofNat']
  omega
end
end Go.AI
namespace Go.Proofs.YtkfaiokiaahbaaaDoor
open Go.AI
abbrev VS (l : List Int) : Value := .string (strOf l)
theorem un50 : Tryd.prog.underlying 50 = some (.slice 9) := by kernel_rfl
theorem one9 : oneBB Tryd.prog 9 = some (.string .empty, 16) := by kernel_rfl
theorem sz9 : sizeB Tryd.prog 9 = some 1 := by kernel_rfl
theorem ag9 : isAggB Tryd.prog 9 = some false := by kernel_rfl
theorem strs_len {H : Heap} {v : Value} {ls : List (List Int)} (h : Row H v (ls.map VS)) : alen Tryd.prog H 50 v = some (.int .i64 ls.length) := by
  have := Row.alen h un50; simpa using this
theorem strs_addr {H : Heap} {v : Value} {ls : List (List Int)} (h : Row H v (ls.map VS)) {i : Int} (h0 : 0 ≤ i) (h1 : i < ls.length) : aindexAddr Tryd.prog 50 v (.int .i64 i) = some (elemAt v i.toNat) := Row.addr h un50 sz9 h0 (by simpa using h1)
theorem strs_load {H : Heap} {v : Value} {ls : List (List Int)} (h : Row H v (ls.map VS)) {i : Int} (h0 : 0 ≤ i) (h1 : i < ls.length) : aload Tryd.prog 9 H (elemAt v i.toNat) = some (VS ls[i.toNat]!) := by
  have : i.toNat < ls.length := by omega
  exact Row.load h ag9 (by simp [List.getElem?_map, List.getElem?_eq_getElem this, getElem!_pos, this])
theorem strs_ask {H : Heap} {K : Value → Heap → Prop} {B B0 : Nat} {x : Value} {y : List Int} {l : List (List Int)} (hx : Own 9 H x (l.map VS) B0) (hB0 : B0 ≤ H.n) (hB : B ≤ B0) (hn : l.length < 1000000)
    (hk : ∀ r H', Own 9 H' r ((l ++ [y]).map VS) B0 → KeepBut x H H' → (∀ c, blkOf r = some c → H.n ≤ c) → K r H') :
    ∃ v H' b, aappend Tryd.prog (H.new (.cells [.string (strOf y)] 9 2)) #[50, 50] x (.slice (some ⟨H.n, 0, none⟩) 1 0) = some (v, H', b) ∧ B ≤ b ∧ K v H' :=
  append_ask un50 one9 (by omega) hx hB0 hB (by simpa using hn) fun r H' h => hk r H' (by simpa using h)
end Go.Proofs.YtkfaiokiaahbaaaDoor

