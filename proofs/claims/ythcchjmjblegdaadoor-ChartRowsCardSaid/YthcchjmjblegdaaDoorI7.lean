/- Strings as lists of bytes; rows of a text. -/
import Derived.Test.YthcchjmjblegdaaDoorI6
namespace Go.AI
theorem strOf_size (l : List Int) : (strOf l).size = l.length := by simp [strOf, ByteArray.size]
theorem strOf_extract (l : List Int) (a b : Nat) : (strOf l).extract a b = strOf ((l.take b).drop a) := by
  apply ByteArray.ext
  rw [ByteArray.data_extract]
  apply Array.ext'
  simp only [strOf, Array.toList_extract, List.map_drop, List.map_take]
  rw [List.drop_take]
theorem strOf_append (a b : List Int) : strOf a ++ strOf b = strOf (a ++ b) := by
  apply ByteArray.ext
  simp [strOf]
section
variable {P : Program} {H : Heap} {t : TypeId} {l : List Int}
theorem str_len (ht : P.underlying t = some .string) : alen P H t (.string (strOf l)) = some (.int .i64 l.length) := by
  simp [alen, ht, strOf_size]
theorem str_index (ht : P.underlying t = some .string) (hb : ∀ x ∈ l, 0 ≤ x ∧ x < 256) {i : Int} {k : IntKind} (h0 : 0 ≤ i) (h1 : i < l.length) : aindex P t (.string (strOf l)) (.int k i) = some (.int .u8 l[i.toNat]!) := by
  have hlt : i.toNat < l.length := by omega
  have hm := hb l[i.toNat] (List.getElem_mem hlt)
  have e : (strOf l)[i.toNat]? = some (UInt8.ofNat (l[i.toNat]).toNat) := by
    rw [getElem?_pos _ _ (by rw [strOf_size]; exact hlt)]
    simp [strOf, ByteArray.getElem_eq_getElem_data]
  simp only [aindex, asIdx, ht, e]
  rw [if_pos h0, getElem!_pos l _ hlt]
  congr 2
  simp only [UInt8.toNat_ofNat']
  omega
theorem str_slice (ht : P.underlying t = some .string) {a b : Int} {k j : IntKind} (h0 : 0 ≤ a) (h1 : a ≤ b) (h2 : b ≤ l.length) : aslice P t (.string (strOf l)) (some (some (.int k a))) (some (some (.int j b))) = some (.string (strOf ((l.take b.toNat).drop a.toNat))) := by
  simp only [aslice, ht, bound, strOf_size]
  rw [if_pos ⟨h0, h1, h2⟩, strOf_extract]
theorem str_slice_lo (ht : P.underlying t = some .string) {a : Int} {k : IntKind} (h0 : 0 ≤ a) (h1 : a ≤ l.length) : aslice P t (.string (strOf l)) (some (some (.int k a))) none = some (.string (strOf (l.drop a.toNat))) := by
  simp only [aslice, ht, bound, strOf_size]
  rw [if_pos ⟨h0, h1, Int.le_refl _⟩, strOf_extract, Int.toNat_natCast, List.take_length]
theorem str_slice_hi (ht : P.underlying t = some .string) {b : Int} {j : IntKind} (h1 : 0 ≤ b) (h2 : b ≤ l.length) : aslice P t (.string (strOf l)) none (some (some (.int j b))) = some (.string (strOf (l.take b.toNat))) := by
  simp only [aslice, ht, bound, strOf_size]
  rw [if_pos ⟨by omega, h1, h2⟩, strOf_extract]
  rfl
end
end Go.AI
namespace Go.Proofs.YthcchjmjblegdaaDoor
open Go.AI
abbrev VS (l : List Int) : Value := .string (strOf l)
theorem un50 : Tryd.prog.underlying 50 = some (.slice 9) := by kernel_rfl
theorem one9 : oneBB Tryd.prog 9 = some (.string .empty, 16) := by kernel_rfl
theorem sz9 : sizeB Tryd.prog 9 = some 1 := by kernel_rfl
theorem ag9 : isAggB Tryd.prog 9 = some false := by kernel_rfl
theorem strs_len {H : Heap} {v : Value} {ls : List (List Int)} (h : Row H v (ls.map VS)) : alen Tryd.prog H 50 v = some (.int .i64 ls.length) := by
  have := Row.alen h un50; simpa using this
theorem strs_addr {H : Heap} {v : Value} {ls : List (List Int)} (h : Row H v (ls.map VS)) {i : Int} (h0 : 0 ≤ i) (h1 : i < ls.length) : aindexAddr Tryd.prog 50 v (.int .i64 i) = some (elemAt v i.toNat) := Row.addr h un50 sz9 h0 (by simpa using h1)
theorem strs_load {H : Heap} {v : Value} {ls : List (List Int)} (h : Row H v (ls.map VS)) {i : Int} (h0 : 0 ≤ i) (h1 : i < ls.length) : aload Tryd.prog 9 H (elemAt v i.toNat) = some (VS ls[i.toNat]!) := by
  have : i.toNat < ls.length := by omega
  exact Row.load h ag9 (by simp [List.getElem?_map, List.getElem?_eq_getElem this, getElem!_pos, this])
theorem strs_ask {H : Heap} {K : Value → Heap → Prop} {B B0 : Nat} {x : Value} {y : List Int} {l : List (List Int)} (hx : Own 9 H x (l.map VS) B0) (hB0 : B0 ≤ H.n) (hB : B ≤ B0) (hn : l.length < 1000000)
    (hk : ∀ r H', Own 9 H' r ((l ++ [y]).map VS) B0 → KeepBut x H H' → (∀ c, blkOf r = some c → H.n ≤ c) → K r H') :
    ∃ v H' b, aappend Tryd.prog (H.new (.cells [.string (strOf y)] 9 2)) #[50, 50] x (.slice (some ⟨H.n, 0, none⟩) 1 0) = some (v, H', b) ∧ B ≤ b ∧ K v H' :=
  append_ask un50 one9 (by omega) hx hB0 hB (by simpa using hn) fun r H' h => hk r H' (by simpa using h)
/-- The rows of a text that end with a line feed. -/
def rowsF : List Int → List Int → List (List Int)
  | [], _ => []
  | x :: r, cur => if x = 10 then cur :: rowsF r [] else rowsF r (cur ++ [x])
theorem rowsF_len : ∀ (l cur : List Int), (rowsF l cur).length ≤ l.length
  | [], _ => by simp [rowsF]
  | x :: r, cur => by
    rw [rowsF]
    split
    · have := rowsF_len r []; simp; omega
    · have := rowsF_len r (cur ++ [x]); simp; omega
theorem rowsF_one : ∀ (a cur rest : List Int), (∀ x ∈ a, x ≠ 10) → rowsF (a ++ 10 :: rest) cur = (cur ++ a) :: rowsF rest []
  | [], cur, rest, _ => by simp [rowsF]
  | x :: a, cur, rest, h => by
    rw [List.cons_append, rowsF, if_neg (h x (by simp)), rowsF_one a _ rest fun y hy => h y (by simp [hy])]
    simp
theorem rowsF_append : ∀ (a : List Int) (cur b : List Int), (∃ c, a = c ++ [10]) → rowsF (a ++ b) cur = rowsF a cur ++ rowsF b []
  | [], _, _, ⟨c, hc⟩ => by simp at hc
  | x :: a, cur, b, ⟨c, hc⟩ => by
    rw [List.cons_append, rowsF, rowsF]
    by_cases ha : a = []
    · subst ha
      have : x = 10 := by
        cases c with
        | nil => simpa using hc
        | cons y c => simp at hc
      rw [if_pos this, if_pos this]
      simp [rowsF]
    · have hc' : ∃ c, a = c ++ [10] := by
        cases c with
        | nil => simp at hc; exact absurd hc.2 ha
        | cons y c => simp at hc; exact ⟨c, hc.2⟩
      split
      · rw [rowsF_append a [] b hc', List.cons_append]
      · exact rowsF_append a _ b hc'
theorem ch_no10 (xs : List Int) (row c : Int) : ch xs row c ≠ 10 := by
  unfold ch
  split
  · split <;> decide
  · split
    · split <;> decide
    · split
      · split <;> decide
      · split <;> decide
theorem rowsF_drwN (xs : List Int) : ∀ r, rowsF (drwN xs r) [] = (List.range r).map fun (q : Nat) => rowL xs ((q : Int) + 1)
  | 0 => rfl
  | r + 1 => by
    have hno : ∀ x ∈ rowL xs ((r : Int) + 1), x ≠ 10 := fun x hx => by
      simp only [rowL, List.mem_map] at hx
      obtain ⟨c, _, rfl⟩ := hx
      exact ch_no10 _ _ _
    have h1 : rowsF (rowL xs ((r : Int) + 1) ++ [10]) [] = [rowL xs ((r : Int) + 1)] := by
      have := rowsF_one (rowL xs ((r : Int) + 1)) [] [] hno
      simpa [rowsF] using this
    rw [drwN, List.range_succ, List.map_append]
    by_cases hr : r = 0
    · subst hr
      simpa [drwN] using h1
    · obtain ⟨q, rfl⟩ : ∃ q, r = q + 1 := ⟨r - 1, by omega⟩
      rw [rowsF_append _ _ _ ⟨drwN xs q ++ rowL xs ((q : Int) + 1), by rw [drwN]; simp⟩, rowsF_drwN xs (q + 1), h1]
      rfl
theorem drwN_bytes (xs : List Int) : ∀ r, ∀ x ∈ drwN xs r, 0 ≤ x ∧ x < 256
  | 0, x, h => by simp [drwN] at h
  | r + 1, x, h => by
    simp only [drwN, List.mem_append, List.mem_singleton] at h
    rcases h with h | h | h
    · exact drwN_bytes xs r x h
    · simp only [rowL, List.mem_map] at h
      obtain ⟨c, _, rfl⟩ := h
      have := ch_bytes xs ((r : Int) + 1) c
      omega
    · omega
theorem rowL_bytes (xs : List Int) (row : Int) : ∀ x ∈ rowL xs row, 0 ≤ x ∧ x < 256 := fun x h => by
  simp only [rowL, List.mem_map] at h
  obtain ⟨c, _, rfl⟩ := h
  have := ch_bytes xs row c
  omega
set_option maxHeartbeats 1000000 in
set_option maxRecDepth 100000 in
theorem rows_spec {B : Nat} {H : Heap} {l : List Int} (hB : B ≤ H.n) (hb : ∀ x ∈ l, 0 ≤ x ∧ x < 256) (hn : l.length < 100000) :
    CallB Tryd.prog B 78 [VS l] H (fun r H' => Own 9 H' r ((rowsF l []).map VS) H.n ∧ Keep H H') := by
  refine CV.enter callees false rfl Tryd.func78 rfl ok78 (Nat.le_of_ble_eq_true rfl) hB ?_
  repeat' first
    | refine CO.cons rfl ?_
    | refine CO.nil ?_
    | refine CV.seq ?_
    | refine CV.region callees ?_
    | refine CV.cond ?_
    | refine CV.block ?_
    | refine CV.skip ?_
    | refine CV.exit ?_
    | refine CV.ret ?_
    | refine CV.scope ?_
    | refine CV.draw callees rfl ?_
    | refine CH.cons rfl ?_
    | refine CH.nil ?_
    | refine CO.consG rfl ?_
    | refine CH.consG rfl ?_
    | refine CG.cons rfl ?_
    | refine CG.nil ?_
    | refine CG.consG rfl ?_
    | refine ⟨(rfl : plain _ = true), ?_⟩
    | refine ⟨(rfl : nilOk _ = some _), ?_⟩
    | refine ⟨_, ints_len (by assumption), ?_⟩
    | refine ⟨_, ints_addr (by assumption) (by omega) (by omega), ?_⟩
    | refine ⟨_, ints_load (by assumption) (by omega) (by omega), ?_⟩
    | refine ⟨(⟨by omega, by omega⟩ : inI64 _), ?_⟩
    | refine ⟨_, fun tm ha => step1_max rfl (ev_tmp ha rfl) (ev_tmp ha rfl), ?_⟩
    | refine ⟨_, fun tm ha => step1_min rfl (ev_tmp ha rfl) (ev_tmp ha rfl), ?_⟩
    | (refine ⟨fun _ => ?_, fun _ => ?_⟩ <;> first | (exfalso; omega) | skip)
    | fail
  refine CV.loopc ?_
  refine WCv.rounds callees false (α := Value × Nat × Nat × List (List Int)) (fun (o, f, i, rs) => [(0, VS l), (3, o), (4, .int .i64 f), (5, .int .i64 i)]) (fun (o, f, i, rs) Hz => f ≤ i ∧ i ≤ l.length ∧ rs.length ≤ i ∧ Keep H Hz ∧ Own 9 Hz o (rs.map VS) H.n ∧ rowsF l [] = rs ++ rowsF (l.drop i) ((l.take i).drop f)) (fun (o, f, i, rs) => l.length - i) (.slice none 0 0, 0, 0, []) (by repeat' first | exact trivial | refine ⟨rfl, ?_⟩ | refine ⟨slot_int (by (try simp only [Int.toNat_natCast]); omega), ?_⟩) ?_ ?_
  · exact ⟨by omega, by omega, by simp, Keep.refl _, .inl ⟨rfl, rfl⟩, by simp⟩
  rintro ⟨o, f, i, rs⟩ Hx ⟨hf, hi, hrl, hk, ho, hrs⟩ hBx
  by_cases hi2 : i < l.length
  · have hd : l.drop i = l[i]! :: l.drop (i + 1) := by rw [getElem!_pos l i hi2]; exact List.drop_eq_getElem_cons hi2
    rw [hd, rowsF] at hrs
    have hxi : l[(i : Int).toNat]! = l[i]! := rfl
    repeat' first
      | refine CO.cons rfl ?_
      | refine CO.nil ?_
      | refine CV.seq ?_
      | refine CV.region callees ?_
      | refine CV.cond ?_
      | refine CV.block ?_
      | refine CV.skip ?_
      | refine CV.exit ?_
      | refine CV.ret ?_
      | refine CV.scope ?_
      | refine CV.draw callees rfl ?_
      | refine CH.cons rfl ?_
      | refine CH.nil ?_
      | refine CO.consG rfl ?_
      | refine CH.consG rfl ?_
      | refine CG.cons rfl ?_
      | refine CG.nil ?_
      | refine CG.consG rfl ?_
      | refine ⟨(rfl : plain _ = true), ?_⟩
      | refine ⟨(rfl : nilOk _ = some _), ?_⟩
      | refine ⟨_, ints_len (by assumption), ?_⟩
      | refine ⟨_, ints_addr (by assumption) (by omega) (by omega), ?_⟩
      | refine ⟨_, ints_load (by assumption) (by omega) (by omega), ?_⟩
      | refine ⟨(⟨by omega, by omega⟩ : inI64 _), ?_⟩
      | refine ⟨_, fun tm ha => step1_max rfl (ev_tmp ha rfl) (ev_tmp ha rfl), ?_⟩
      | refine ⟨_, fun tm ha => step1_min rfl (ev_tmp ha rfl) (ev_tmp ha rfl), ?_⟩
      | refine ⟨_, str_len un9, ?_⟩
      | refine ⟨_, str_index un9 hb (by omega) (by omega), ?_⟩
      | (refine ⟨fun _ => ?_, fun _ => ?_⟩ <;> first | (exfalso; omega) | skip)
      | fail
    · rename_i h1 h2
      rw [hxi] at h2
      rw [if_pos h2] at hrs
      repeat' first
        | refine CO.cons rfl ?_
        | refine CO.nil ?_
        | refine CV.seq ?_
        | refine CV.region callees ?_
        | refine CV.cond ?_
        | refine CV.block ?_
        | refine CV.skip ?_
        | refine CV.exit ?_
        | refine CV.ret ?_
        | refine CV.scope ?_
        | refine CV.draw callees rfl ?_
        | refine CH.cons rfl ?_
        | refine CH.nil ?_
        | refine CO.consG rfl ?_
        | refine CH.consG rfl ?_
        | refine CG.cons rfl ?_
        | refine CG.nil ?_
        | refine CG.consG rfl ?_
        | refine ⟨(rfl : plain _ = true), ?_⟩
        | refine ⟨(rfl : nilOk _ = some _), ?_⟩
        | refine ⟨_, ints_len (by assumption), ?_⟩
        | refine ⟨_, ints_addr (by assumption) (by omega) (by omega), ?_⟩
        | refine ⟨_, ints_load (by assumption) (by omega) (by omega), ?_⟩
        | refine ⟨(⟨by omega, by omega⟩ : inI64 _), ?_⟩
        | refine ⟨_, fun tm ha => step1_max rfl (ev_tmp ha rfl) (ev_tmp ha rfl), ?_⟩
        | refine ⟨_, fun tm ha => step1_min rfl (ev_tmp ha rfl) (ev_tmp ha rfl), ?_⟩
        | refine ⟨_, str_slice un9 (by omega) (by omega) (by omega), ?_⟩
        | refine ⟨_, _, build_one un50 one9 rfl, ?_⟩
        | (refine ⟨fun _ => ?_, fun _ => ?_⟩ <;> first | (exfalso; omega) | skip)
        | fail
      rw [Int.toNat_natCast, Int.toNat_natCast]
      refine strs_ask ho hk.1 hB (by omega) ?_
      intro o2 H2 ho2 kb2 hf2
      have k2 := kb2.keep hk fun c hc => (ho.lt hc).1
      repeat' first
        | refine CO.cons rfl ?_
        | refine CO.nil ?_
        | refine CV.seq ?_
        | refine CV.region callees ?_
        | refine CV.cond ?_
        | refine CV.block ?_
        | refine CV.skip ?_
        | refine CV.exit ?_
        | refine CV.ret ?_
        | refine CV.scope ?_
        | refine CV.draw callees rfl ?_
        | refine CH.cons rfl ?_
        | refine CH.nil ?_
        | refine CO.consG rfl ?_
        | refine CH.consG rfl ?_
        | refine CG.cons rfl ?_
        | refine CG.nil ?_
        | refine CG.consG rfl ?_
        | refine ⟨(rfl : plain _ = true), ?_⟩
        | refine ⟨(rfl : nilOk _ = some _), ?_⟩
        | refine ⟨_, ints_len (by assumption), ?_⟩
        | refine ⟨_, ints_addr (by assumption) (by omega) (by omega), ?_⟩
        | refine ⟨_, ints_load (by assumption) (by omega) (by omega), ?_⟩
        | refine ⟨(⟨by omega, by omega⟩ : inI64 _), ?_⟩
        | refine ⟨_, fun tm ha => step1_max rfl (ev_tmp ha rfl) (ev_tmp ha rfl), ?_⟩
        | refine ⟨_, fun tm ha => step1_min rfl (ev_tmp ha rfl) (ev_tmp ha rfl), ?_⟩
        | (refine ⟨fun _ => ?_, fun _ => ?_⟩ <;> first | (exfalso; omega) | skip)
        | fail
      refine ⟨(o2, i + 1, i + 1, rs ++ [(l.take i).drop f]), (by repeat' first | exact trivial | refine ⟨rfl, ?_⟩ | refine ⟨slot_int (by (try simp only [Int.toNat_natCast]); omega), ?_⟩), (by (try dsimp only); omega), ?_⟩
      refine ⟨by omega, by omega, by simp; omega, k2, ho2, ?_⟩
      rw [hrs, List.append_assoc, List.drop_of_length_le (l := l.take (i + 1)) (by simp; omega)]
      rfl
    · rename_i h1 h2
      rw [hxi] at h2
      rw [if_neg h2] at hrs
      refine ⟨(o, f, i + 1, rs), (by repeat' first | exact trivial | refine ⟨rfl, ?_⟩ | refine ⟨slot_int (by (try simp only [Int.toNat_natCast]); omega), ?_⟩), (by (try dsimp only); omega), ?_⟩
      refine ⟨by omega, by omega, by omega, hk, ho, ?_⟩
      rw [hrs]
      congr 2
      rw [List.take_add_one, List.getElem?_eq_getElem hi2, getElem!_pos l i hi2]
      simp only [Option.toList_some]
      rw [List.drop_append_of_le_length (by simp; omega)]
  · have : i = l.length := by omega
    subst this
    rw [List.drop_length, rowsF, List.append_nil] at hrs
    repeat' first
      | refine CO.cons rfl ?_
      | refine CO.nil ?_
      | refine CV.seq ?_
      | refine CV.region callees ?_
      | refine CV.cond ?_
      | refine CV.block ?_
      | refine CV.skip ?_
      | refine CV.exit ?_
      | refine CV.ret ?_
      | refine CV.scope ?_
      | refine CV.draw callees rfl ?_
      | refine CH.cons rfl ?_
      | refine CH.nil ?_
      | refine CO.consG rfl ?_
      | refine CH.consG rfl ?_
      | refine CG.cons rfl ?_
      | refine CG.nil ?_
      | refine CG.consG rfl ?_
      | refine ⟨(rfl : plain _ = true), ?_⟩
      | refine ⟨(rfl : nilOk _ = some _), ?_⟩
      | refine ⟨_, ints_len (by assumption), ?_⟩
      | refine ⟨_, ints_addr (by assumption) (by omega) (by omega), ?_⟩
      | refine ⟨_, ints_load (by assumption) (by omega) (by omega), ?_⟩
      | refine ⟨(⟨by omega, by omega⟩ : inI64 _), ?_⟩
      | refine ⟨_, fun tm ha => step1_max rfl (ev_tmp ha rfl) (ev_tmp ha rfl), ?_⟩
      | refine ⟨_, fun tm ha => step1_min rfl (ev_tmp ha rfl) (ev_tmp ha rfl), ?_⟩
      | refine ⟨_, str_len un9, ?_⟩
      | (refine ⟨fun _ => ?_, fun _ => ?_⟩ <;> first | (exfalso; omega) | skip)
      | fail
    refine ⟨by simp only [List.all_cons, List.all_nil, ho.notTuple]; rfl, ?_, hk⟩
    rw [hrs]; exact ho
end Go.Proofs.YthcchjmjblegdaaDoor
