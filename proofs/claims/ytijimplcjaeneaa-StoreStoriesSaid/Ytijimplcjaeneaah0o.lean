
/- Chains made of numbers. -/
import Derived.Test.YtijimplcjaeneaaO4
import Derived.Test.YtijimplcjaeneaaO3
set_option linter.unusedVariables false
set_option linter.unusedSimpArgs false
namespace Go.Proofs.Ytijimplcjaeneaa
open Go.AI
theorem zeroLkb : zeroBB Try.prog 28 = some (Lkl ⟨0, 0, 0, 0⟩, 32) := by kernel_rfl
theorem zeroSp : zeroCellsW Try.prog 23 = some [VI 0, VI 0] := by kernel_rfl
theorem alSp {H : Heap} : sAlloc Try.prog H 23 = some (.pointer (some ⟨H.n, 0, none⟩), H.new (.cells [VI 0, VI 0] 23 1), H.n) := alloc_ofW zeroSp
theorem stSp {H : Heap} {b k : Nat} {x y c d : Int} {e : TypeId} (hg : H.get b = some (.cells [VI x, VI y] e (k + 1))) : astore Try.prog 23 H (Spv c d) (.pointer (some ⟨b, 0, none⟩)) = some (H.set b (.cells [VI c, VI d] e (k + 1)), b) := store_allW (vs := [VI c, VI d]) hg rfl szSp rfl
theorem ldSp {H : Heap} {b : Nat} {c d : Int} {e : TypeId} {k : Nat} (hg : H.get b = some (.cells [VI c, VI d] e k)) : aload Try.prog 23 H (.pointer (some ⟨b, 0, none⟩)) = some (Spv c d) := agg_load agSp szSp hg (Nat.le_refl _)
theorem buLk {a b c d : Int} : abuild Try.prog 28 [(0, VI a), (1, VI b), (2, Spv c d)] = some (Lkv ⟨a, b, c, d⟩) := by kernel_rfl
theorem lkOne {H : Heap} {x : Lk} : abuildSlice Try.prog H 24 1 [(0, Lkv x)] = some (.slice (some ⟨H.n, 0, none⟩) 1 0, H.new (.cells (Lkl x) 28 2), H.n) :=
  build_oneS (row := Lkl x) unLs zeroLkb (by decide) rfl
abbrev OwnLk (H : Heap) (v : Value) (l : List Lk) (B : Nat) : Prop := OwnS 28 4 H v (l.map Lkl) B
theorem lkPush {K : Value → Heap → Prop} {B B0 : Nat} {H : Heap} {x : Value} {l : List Lk} {d : Lk} (hx : OwnLk H x l B0) (hB0 : B0 ≤ H.n) (hB : B ≤ B0) (hn : l.length < 1000000)
    (hk : ∀ r H', OwnLk H' r (l ++ [d]) B0 → KeepBut x H H' → (∀ c, blkOf r = some c → H.n ≤ c) → K r H') :
    ∃ v H' b, aappend Try.prog (H.new (.cells (Lkl d) 28 2)) #[24, 24] x (.slice (some ⟨H.n, 0, none⟩) 1 0) = some (v, H', b) ∧ B ≤ b ∧ K v H' :=
  append_askS (z := Lkl ⟨0, 0, 0, 0⟩) unLs zeroLkb (by decide) rfl hx hB0 hB (by rw [List.length_map]; exact hn) (fun r H' ho => hk r H' (by rw [OwnLk, List.map_append]; exact ho))
theorem OwnS.oneC {e : TypeId} {s : Nat} {H : Heap} {v : Value} {rs : List (List Value)} {B : Nat} (h : OwnS e s H v rs B) : AI.oneC v = true := by
  rcases h.2 with ⟨rfl, _⟩ | ⟨_, rfl, _⟩ <;> rfl
theorem OwnS.same {e : TypeId} {s : Nat} {H : Heap} {v : Value} {rs : List (List Value)} {B : Nat} (h : OwnS e s H v rs B) : sameFix v v = true := by
  rcases h.2 with ⟨rfl, _⟩ | ⟨b, rfl, _⟩
  · rfl
  · exact same_sl
theorem row_but {H H' : Heap} {x v : Value} {vs : List Value} (h : Row H v vs) (k : KeepBut x H H') (ha : ∀ c, blkOf v = some c → blkOf x ≠ some c) : Row H' v vs := by
  rcases h with h | h | ⟨b, i, c, cs, e, kd, rfl, h2, h3, h4⟩
  · exact .inl h
  · exact .inr (.inl h)
  · exact .inr (.inr ⟨b, i, c, cs, e, kd, rfl, Nat.lt_of_lt_of_le h2 k.le, by rw [k.get b h2 (ha b rfl)]; exact h3, h4⟩)
theorem rowS_but {s : Nat} {H H' : Heap} {x v : Value} {rs : List (List Value)} (h : RowS s H v rs) (k : KeepBut x H H') (ha : ∀ c, blkOf v = some c → blkOf x ≠ some c) : RowS s H' v rs := by
  refine ⟨h.1, ?_⟩
  rcases h.2 with h | h | ⟨b, i, c, cs, e, kd, rfl, h2, h3, h4⟩
  · exact .inl h
  · exact .inr (.inl h)
  · exact .inr (.inr ⟨b, i, c, cs, e, kd, rfl, Nat.lt_of_lt_of_le h2 k.le, by rw [k.get b h2 (ha b rfl)]; exact h3, h4⟩)
set_option maxRecDepth 100000 in
theorem fit_spec [Orc] {B : Nat} {H : Heap} {x n : Int} (hB : B ≤ H.n) (hn : 2 ≤ n) (h0 : 0 ≤ x) (h1 : x < 2 * n) (h9 : n < 100000) :
    CallB Try.prog B 75 [VI x, VI n] H (fun r H' => r = VI (if x < n then x else x - n) ∧ H' = H) := by
  have hm : x.tmod n = if x < n then x else x - n := by
    rw [Int.tmod_eq_emod_of_nonneg h0]
    split
    · exact Int.emod_eq_of_lt h0 (by assumption)
    · rename_i hx
      rw [show x = (x - n) + n by omega, Int.add_emod_right, Int.emod_eq_of_lt (by omega) (by omega)]
      omega
  have hm0 : 0 ≤ x.tmod n := by rw [hm]; split <;> omega
  have hm1 : x.tmod n < n := by rw [hm]; split <;> omega
  rw [← hm]
  refine CV.enter callees false (Orc.hv rfl rfl) Try.func75 rfl (by kernel_rfl) (Nat.le_of_ble_eq_true rfl) hB ?_ (Orc.hw rfl rfl)
  repeat' first
    | refine CO.cons rfl ?_
    | refine CO.nil ?_
    | refine CV.seq ?_
    | refine CV.region callees ?_
    | refine CV.cond ?_
    | refine CV.skip ?_
    | refine CV.ret ?_
    | (refine ⟨_, fun tm ha => step1_rem rfl (ev_tmp ha rfl) (ev_tmp ha rfl) (by omega), ?_⟩)
    | (refine ⟨fun _ => ?_, fun _ => ?_⟩ <;> first | (exfalso; omega) | skip)
    | fail
  exact ⟨rfl, rfl, rfl⟩
end Go.Proofs.Ytijimplcjaeneaa

