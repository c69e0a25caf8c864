
/- Choices as bits: their numbers, their lists, what they choose; loans that are chosen. -/
import Derived.Test.Ytjjmnfgnlcbfhaad0o
import Derived.Test.YtjjmnfgnlcbfhaaQ1bo
set_option linter.unusedVariables false
set_option linter.unusedSimpArgs false
namespace Go.AI
/-- The number that bits are, the highest one first. -/
def valB : List Bool → Nat
  | [] => 0
  | b :: t => (if b then 2 ^ t.length else 0) + valB t
theorem valB_lt : ∀ l, valB l < 2 ^ l.length
  | [] => by simp [valB]
  | b :: t => by
    have := valB_lt t
    simp only [valB, List.length_cons, Nat.pow_succ]
    split <;> omega
/-- The places of the bits that are set, from a number on. -/
def selB : Nat → List Bool → List Int
  | _, [] => []
  | k, b :: t => if b then (k : Int) :: selB (k + 1) t else selB (k + 1) t
/-- The bits of a number below n, the highest one first. -/
def bitsB (c : Nat) : Nat → List Bool
  | 0 => []
  | n + 1 => c.testBit n :: bitsB c n
theorem bitsB_len (c : Nat) : ∀ n, (bitsB c n).length = n
  | 0 => rfl
  | n + 1 => by rw [bitsB, List.length_cons, bitsB_len c n]
theorem valB_bits (c : Nat) : ∀ n, valB (bitsB c n) = c % 2 ^ n
  | 0 => by simp [valB, bitsB, Nat.mod_one]
  | n + 1 => by
    rw [bitsB, valB, bitsB_len, valB_bits c n, Nat.mod_pow_succ]
    have h := Nat.toNat_testBit c n
    rcases Nat.mod_two_eq_zero_or_one (c / 2 ^ n) with e | e
    · rw [e] at h ⊢
      cases hb : c.testBit n with
      | true => rw [hb] at h; cases h
      | false => simp
    · rw [e] at h ⊢
      cases hb : c.testBit n with
      | true => simp [Nat.add_comm]
      | false => rw [hb] at h; cases h
theorem bits_valB : ∀ l : List Bool, bitsB (valB l) l.length = l
  | [] => rfl
  | b :: t => by
    have hl := valB_lt t
    have h1 : (valB (b :: t)).testBit t.length = b := by
      rw [valB]
      cases b with
      | true => rw [if_pos rfl, Nat.testBit_two_pow_add_eq, Nat.testBit_lt_two_pow hl]; rfl
      | false => rw [if_neg (by simp), Nat.zero_add, Nat.testBit_lt_two_pow hl]
    have h2 : bitsB (valB (b :: t)) t.length = bitsB (valB t) t.length := by
      have : ∀ n, n ≤ t.length → bitsB (valB (b :: t)) n = bitsB (valB t) n := by
        intro n
        induction n with
        | zero => intro _; rfl
        | succ n ih =>
          intro hn
          rw [bitsB, bitsB, ih (by omega)]
          congr 1
          rw [valB]
          cases b with
          | true => rw [if_pos rfl, Nat.testBit_two_pow_add_gt (by omega)]
          | false => rw [if_neg (by simp), Nat.zero_add]
      exact this _ (Nat.le_refl _)
    rw [List.length_cons, bitsB, h1, h2, bits_valB t]
def befL : List Int → List Int → Bool
  | x :: a, y :: b => if x = y then befL a b else decide (x < y)
  | _, _ => false
theorem selB_ge : ∀ {l : List Bool} {k : Nat} {x : Int}, x ∈ selB k l → (k : Int) ≤ x
  | [], k, x, h => by simp [selB] at h
  | b :: t, k, x, h => by
    rw [selB] at h
    split at h
    · rcases List.mem_cons.1 h with rfl | h
      · exact Int.le_refl _
      · have := selB_ge h; omega
    · have := selB_ge h; omega
/-- Of two choices of as many, the greater number's list comes first. -/
theorem selB_bef : ∀ {l l' : List Bool} {k : Nat}, l.length = l'.length → (selB k l).length = (selB k l').length → valB l < valB l' → befL (selB k l') (selB k l) = true
  | [], [], k, _, _, h => by simp at h
  | [], _ :: _, k, h, _, _ => by simp at h
  | _ :: _, [], k, h, _, _ => by simp at h
  | b :: t, b' :: t', k, h, hs, hv => by
    have hl : t.length = t'.length := by simpa using h
    have h1 := valB_lt t
    have h2 := valB_lt t'
    rw [hl] at h1
    rw [valB, valB, hl] at hv
    cases b with
    | true =>
      cases b' with
      | true =>
        simp only [selB, if_true, List.length_cons] at hs hv ⊢
        rw [befL, if_pos rfl]
        exact selB_bef hl (by omega) (by omega)
      | false =>
        simp only [if_true, Bool.false_eq_true, if_false] at hv
        omega
    | false =>
      cases b' with
      | true =>
        simp only [selB, if_true, Bool.false_eq_true, if_false, List.length_cons] at hs ⊢
        cases hq : selB (k + 1) t with
        | nil => rw [hq] at hs; simp at hs
        | cons y ys =>
          have hy := selB_ge (l := t) (k := k + 1) (x := y) (by rw [hq]; exact List.mem_cons_self ..)
          rw [befL, if_neg (by omega), decide_eq_true (by omega)]
      | false =>
        simp only [selB, Bool.false_eq_true, if_false] at hs hv ⊢
        exact selB_bef hl hs (by omega)
theorem befL_anti : ∀ {a b : List Int}, befL a b = true → befL b a = false
  | x :: a, y :: b, h => by
    rw [befL] at h ⊢
    by_cases e : x = y
    · rw [if_pos e] at h; rw [if_pos e.symm]; exact befL_anti h
    · rw [if_neg e] at h; rw [if_neg (Ne.symm e)]
      have := of_decide_eq_true h
      exact decide_eq_false (by omega)
  | [], _, h => by simp [befL] at h
  | _ :: _, [], h => by simp [befL] at h
theorem selB_inj : ∀ {l l' : List Bool} {k : Nat}, l.length = l'.length → selB k l = selB k l' → l = l'
  | [], [], _, _, _ => rfl
  | [], _ :: _, k, h, _ => by simp at h
  | _ :: _, [], k, h, _ => by simp at h
  | b :: t, b' :: t', k, h, hs => by
    have hl : t.length = t'.length := by simpa using h
    cases b with
    | true =>
      cases b' with
      | true =>
        simp only [selB, if_true, List.cons.injEq, true_and] at hs
        rw [selB_inj hl hs]
      | false =>
        simp only [selB, if_true, Bool.false_eq_true, if_false] at hs
        have := selB_ge (l := t') (k := k + 1) (x := (k : Int)) (by rw [← hs]; exact List.mem_cons_self ..)
        omega
    | false =>
      cases b' with
      | true =>
        simp only [selB, if_true, Bool.false_eq_true, if_false] at hs
        have := selB_ge (l := t) (k := k + 1) (x := (k : Int)) (by rw [hs]; exact List.mem_cons_self ..)
        omega
      | false =>
        simp only [selB, Bool.false_eq_true, if_false] at hs
        rw [selB_inj hl hs]
/-- Bits the other way round: each choice is a set. -/
theorem set_of : ∀ l : List Bool, ∃ s, s < 2 ^ l.length ∧ ∀ i, i < l.length → s.testBit i = l[i]!
  | [] => ⟨0, by simp, fun i h => by simp at h⟩
  | b :: t => by
    obtain ⟨s, h1, h2⟩ := set_of t
    refine ⟨2 * s + (if b then 1 else 0), ?_, ?_⟩
    · rw [List.length_cons, Nat.pow_succ]; split <;> omega
    · intro i hi
      cases i with
      | zero => cases b <;> simp [Nat.testBit_zero]
      | succ i =>
        rw [Nat.testBit_succ, show (2 * s + (if b then 1 else 0)) / 2 = s by split <;> omega, h2 i (by simpa using hi)]
        simp
/-- What is chosen of a list. -/
def selX {α : Type} : List Bool → List α → List α
  | b :: bs, x :: xs => if b then x :: selX bs xs else selX bs xs
  | _, _ => []
theorem selX_snoc {α : Type} : ∀ {bs : List Bool} {xs : List α} {b : Bool} {x : α}, bs.length = xs.length → selX (bs ++ [b]) (xs ++ [x]) = selX bs xs ++ (if b then [x] else [])
  | [], [], b, x, _ => by cases b <;> rfl
  | [], _ :: _, _, _, h => by simp at h
  | _ :: _, [], _, _, h => by simp at h
  | c :: bs, y :: xs, b, x, h => by
    have ih := selX_snoc (bs := bs) (xs := xs) (b := b) (x := x) (by simpa using h)
    cases c <;> simp [selX, ih]
theorem selX_len {α : Type} : ∀ {bs : List Bool} {xs : List α}, (selX bs xs).length ≤ xs.length
  | [], xs => by simp [selX]
  | _ :: _, [] => by simp [selX]
  | b :: bs, x :: xs => by
    have := selX_len (bs := bs) (xs := xs)
    cases b <;> simp [selX] <;> omega
theorem selX_mem {α : Type} {y : α} : ∀ {bs : List Bool} {xs : List α}, y ∈ selX bs xs → y ∈ xs
  | [], xs, h => by simp [selX] at h
  | _ :: _, [], h => by simp [selX] at h
  | b :: bs, x :: xs, h => by
    cases b with
    | true =>
      simp only [selX, if_true] at h
      rcases List.mem_cons.1 h with rfl | h
      · exact List.mem_cons_self ..
      · exact List.mem_cons_of_mem _ (selX_mem h)
    | false =>
      simp only [selX, Bool.false_eq_true, if_false] at h
      exact List.mem_cons_of_mem _ (selX_mem h)
theorem selX_selB {α : Type} : ∀ {bs : List Bool} {xs : List α} {k : Nat}, bs.length = xs.length → (selX bs xs).length = (selB k bs).length
  | [], [], _, _ => rfl
  | [], _ :: _, _, h => by simp at h
  | _ :: _, [], _, h => by simp at h
  | c :: bs, y :: xs, k, h => by
    have ih := selX_selB (bs := bs) (xs := xs) (k := k + 1) (by simpa using h)
    cases c <;> simp [selX, selB, ih]
theorem selX_nums : ∀ {bs : List Bool} {k : Nat}, selX bs ((List.range' k bs.length).map fun (i : Nat) => (i : Int)) = selB k bs
  | [], _ => rfl
  | b :: bs, k => by
    rw [List.length_cons, List.range'_succ, List.map_cons]
    have ih := selX_nums (bs := bs) (k := k + 1)
    cases b <;> simp [selX, selB, ih]
theorem bitsB_at (c : Nat) : ∀ {n i : Nat}, i < n → (bitsB c n)[i]! = c.testBit (n - 1 - i)
  | n + 1, 0, _ => by simp [bitsB]
  | n + 1, i + 1, h => by
    rw [bitsB, List.getElem!_cons_succ, bitsB_at c (by omega)]
    congr 1; omega
theorem bit_and {c m : Nat} : (c >>> m &&& 1 = 1) ↔ c.testBit m = true := by
  rw [Nat.testBit, Nat.and_comm]
  have : 1 &&& c >>> m = c >>> m % 2 := by rw [Nat.and_comm, Nat.and_one_is_mod]
  rw [this]
  rcases Nat.mod_two_eq_zero_or_one (c >>> m) with h | h <;> simp [h]
end Go.AI
namespace Go.Proofs.Ytjjmnfgnlcbfhaa
open Go.AI
theorem one_lo {α : Type} [Inhabited α] {l : List α} {i : Nat} (h : i < l.length) : l.take (i + 1) = l.take i ++ [l[i]!] := one_at h
theorem unU : Try.prog.underlying 112 = some (.int .u64) := by kernel_rfl
section
variable {P : Program} {tm : Tm} {H : Heap} {q : Oper} {t u : TypeId} {x y : Operand}
theorem andUu {a b : Nat} (ho : q.op = .binOp .and t x y u) (hx : ev P tm x = some (VU (a : Int))) (hy : ev P tm y = some (VU (b : Int))) (ha : a < 2 ^ 64) (hb : b < 2 ^ 64) : step1 P tm H q = some (VU ((a &&& b : Nat) : Int), H, H.n) := by
  rw [step1_bits (.inr (.inl rfl)) ho hx hy rfl rfl, andN ha hb]
theorem shrUu {a : Nat} {i : Int} (ho : q.op = .binOp .shr t x y u) (hx : ev P tm x = some (VU (a : Int))) (hy : ev P tm y = some (VI i)) (h0 : 0 ≤ i) (h1 : i < 64) : step1 P tm H q = some (VU ((a >>> i.toNat : Nat) : Int), H, H.n) := by
  rw [step1_shr ho hx hy h0, shrN h0 h1]
theorem shlU {i : Int} (ho : q.op = .binOp .shl t x y u) (hx : ev P tm x = some (VU 1)) (hy : ev P tm y = some (VI i)) (h0 : 0 ≤ i) (h1 : i < 64) : step1 P tm H q = some (VU ((2 ^ i.toNat : Nat) : Int), H, H.n) := by
  rw [step1_shl ho hx hy h0, shlN h0 h1, Nat.one_shiftLeft]
end
set_option maxHeartbeats 4000000 in
set_option maxRecDepth 100000 in
theorem chosenLo_spec [Orc] {B c : Nat} {H : Heap} {v : Value} {l : List Lo} (hB : B ≤ H.n) (hl : RowS 4 H v (l.map Lol)) (hn : l.length ≤ 20) (hc : c < 2 ^ 32) :
    CallB Try.prog B 97 [v, VU (c : Int)] H (fun r H' => OwnLo H' r (selX (bitsB c l.length) l) H.n ∧ Keep H H') := by
  have hbl := bitsB_len c l.length
  refine CV.enter callees false (Orc.hv rfl rfl) Try.func97 rfl (by kernel_rfl) (Nat.le_of_ble_eq_true rfl) hB ?_ (Orc.hw rfl rfl)
  repeat' first
    | refine CO.cons rfl ?_
    | refine CO.nil ?_
    | refine CV.seq ?_
    | refine CV.region callees ?_
    | refine CV.block ?_
    | (refine ⟨_, lo_len hl, ?_⟩)
    | fail
  refine CV.loopc ?_
  refine WCv.rounds callees false (α := Nat × Value) (fun (i, q) => [(0, v), (1, VU (c : Int)), (5, q), (8, v), (9, VI l.length), (10, VI i)]) (fun (i, q) Hz => i ≤ l.length ∧ OwnLo Hz q (selX ((bitsB c l.length).take i) (l.take i)) H.n ∧ Keep H Hz) (fun (i, q) => l.length - i) (0, nilS) (by repeat' first | exact trivial | refine ⟨rfl, ?_⟩ | refine ⟨slot_int (by (try simp only [Int.toNat_natCast]); omega), ?_⟩) ?_ ?_
  · exact ⟨by omega, ⟨fun r hr => by simp [selX] at hr, .inl ⟨rfl, by simp [selX]⟩⟩, Keep.refl _⟩
  rintro ⟨i, q⟩ Hx ⟨hi, hq, kx⟩ hBx
  have hlx := hl.keep kx
  have lx := kx.1
  by_cases hi2 : i < l.length
  · have hsn : selX ((bitsB c l.length).take (i + 1)) (l.take (i + 1)) = selX ((bitsB c l.length).take i) (l.take i) ++ (if c.testBit (l.length - 1 - i) then [l[i]!] else []) := by
      rw [one_at (by omega), one_at hi2, selX_snoc (by simp [hbl]), bitsB_at c hi2]
    have hsl := selX_len (bs := (bitsB c l.length).take i) (xs := l.take i)
    rw [List.length_take] at hsl
    repeat' first
      | refine CO.cons rfl ?_
      | refine CO.nil ?_
      | refine CV.seq ?_
      | refine CV.region callees ?_
      | refine CV.cond ?_
      | refine CV.block ?_
      | refine CV.skip ?_
      | (refine ⟨_, lo_addr hlx (by omega) (by omega), ?_⟩)
      | (refine ⟨_, lo_load hlx hi2, ?_⟩)
      | (refine ⟨_, _, alLo, ?_⟩)
      | (refine ⟨fun _ => ?_, fun _ => ?_⟩ <;> first | (exfalso; omega) | skip)
      | fail
    generalize hs4 : Heap.new Hx _ = H4
    have hg4 := new_get hs4
    have k4 := new_keep hs4
    have n4 := new_n hs4
    obtain ⟨b4, hbn4⟩ : ∃ b, Heap.n Hx = b := ⟨_, rfl⟩
    rw [hbn4] at hg4 n4 ⊢
    repeat' first
      | fail
    refine ⟨_, _, stLo hg4, by omega, ?_⟩
    generalize hs5 : Heap.set H4 b4 _ = H5
    have hg5 : H5.get b4 = some (.cells (Lol l[i]!) 99 1) := set_get hs5
    have n5 := set_n hs5
    have o5 := set_old hs5
    have k5 : Keep Hx H5 := keep_put k4 (by omega) o5 n5
    have l5 := k5.1
    have hq5 : OwnLo H5 q _ H.n := OwnS.keep hq k5
    have hlx5 := hlx.keep k5
    have hm : ((l.length : Int) - 1 - (i : Int)).toNat = l.length - 1 - i := by omega
    have hsh : c >>> ((l.length : Int) - 1 - (i : Int)).toNat < 2 ^ 64 := Nat.lt_of_le_of_lt (by rw [Nat.shiftRight_eq_div_pow]; exact Nat.div_le_self _ _) (Nat.lt_trans hc (by decide))
    have hba := bit_and (c := c) (m := ((l.length : Int) - 1 - (i : Int)).toNat)
    rw [← hm] at hsn
    obtain ⟨a, ha⟩ : ∃ a, c >>> ((l.length : Int) - 1 - (i : Int)).toNat &&& 1 = a := ⟨_, rfl⟩
    rw [ha] at hba
    by_cases hb : a = 1
    · rw [if_pos (hba.1 hb)] at hsn
      repeat' first
        | refine CO.cons rfl ?_
        | refine CO.nil ?_
        | refine CV.seq ?_
        | refine CV.region callees ?_
        | refine CV.cond ?_
        | refine ⟨(⟨by omega, by omega⟩ : inI64 _), ?_⟩
        | (refine ⟨_, lo_len hlx5, ?_⟩)
        | (refine ⟨_, fun tm ha => shrUu rfl (ev_tmp ha rfl) (ev_tmp ha rfl) (by omega) (by omega), ?_⟩)
        | (refine ⟨_, fun tm ha => andUu (b := 1) rfl (ev_tmp ha rfl) rfl hsh (by decide), ?_⟩)
        | (rw [ha])
        | (refine ⟨_, ldLo hg5, ?_⟩)
        | (refine ⟨_, _, loOne, ?_⟩)
        | (refine ⟨fun _ => ?_, fun _ => ?_⟩ <;> first | (exfalso; omega) | skip)
        | fail
      refine loPush hq5 (by omega) hB (by omega) ?_
      intro q6 H6 hq6 kb6 hf6
      have hqb : ∀ c, blkOf q = some c → H.n ≤ c := fun c hc => (hq5.lt hc).1
      repeat' first
        | refine CO.cons rfl ?_
        | refine CO.nil ?_
        | refine CV.region callees ?_
        | refine ⟨(⟨by omega, by omega⟩ : inI64 _), ?_⟩
        | fail
      refine ⟨(i + 1, q6), (by repeat' first | exact trivial | refine ⟨rfl, ?_⟩ | refine ⟨slot_int (by (try simp only [Int.toNat_natCast]); omega), ?_⟩), (by (try dsimp only); omega), ?_⟩
      exact ⟨by omega, by rw [hsn]; exact hq6, kb6.keep (kx.trans k5) hqb⟩
    · rw [if_neg (fun h => hb (hba.2 h)), List.append_nil] at hsn
      repeat' first
        | refine CO.cons rfl ?_
        | refine CO.nil ?_
        | refine CV.seq ?_
        | refine CV.region callees ?_
        | refine CV.cond ?_
        | refine CV.skip ?_
        | refine ⟨(⟨by omega, by omega⟩ : inI64 _), ?_⟩
        | (refine ⟨_, lo_len hlx5, ?_⟩)
        | (refine ⟨_, fun tm ha => shrUu rfl (ev_tmp ha rfl) (ev_tmp ha rfl) (by omega) (by omega), ?_⟩)
        | (refine ⟨_, fun tm ha => andUu (b := 1) rfl (ev_tmp ha rfl) rfl hsh (by decide), ?_⟩)
        | (rw [ha])
        | (refine ⟨fun _ => ?_, fun _ => ?_⟩ <;> first | (exfalso; omega) | skip)
        | fail
      refine ⟨(i + 1, q), (by repeat' first | exact trivial | refine ⟨rfl, ?_⟩ | refine ⟨slot_int (by (try simp only [Int.toNat_natCast]); omega), ?_⟩), (by (try dsimp only); omega), ?_⟩
      exact ⟨by omega, by rw [hsn]; exact hq5, kx.trans k5⟩
  obtain rfl : i = l.length := by omega
  rw [List.take_length, List.take_of_length_le (by omega)] at hq
  repeat' first
    | refine CO.cons rfl ?_
    | refine CO.nil ?_
    | refine CV.seq ?_
    | refine CV.region callees ?_
    | refine CV.cond ?_
    | refine CV.exit ?_
    | refine CV.ret ?_
    | (refine ⟨fun _ => ?_, fun _ => ?_⟩ <;> first | (exfalso; omega) | skip)
    | fail
  exact ⟨by simp only [List.all_cons, List.all_nil, OwnS.notTuple hq]; rfl, hq, kx⟩
set_option maxHeartbeats 4000000 in
set_option maxRecDepth 100000 in
theorem chosenI_spec [Orc] {B c : Nat} {H : Heap} {v : Value} {l : List Int} (hB : B ≤ H.n) (hl : Ints H v l) (hn : l.length ≤ 20) (hc : c < 2 ^ 32) :
    CallB Try.prog B 100 [v, VU (c : Int)] H (fun r H' => Own 3 H' r ((selX (bitsB c l.length) l).map VI) H.n ∧ Keep H H') := by
  have hbl := bitsB_len c l.length
  refine CV.enter callees false (Orc.hv rfl rfl) Try.func100 rfl (by kernel_rfl) (Nat.le_of_ble_eq_true rfl) hB ?_ (Orc.hw rfl rfl)
  repeat' first
    | refine CO.cons rfl ?_
    | refine CO.nil ?_
    | refine CV.seq ?_
    | refine CV.region callees ?_
    | refine CV.block ?_
    | refine ⟨_, ints_len (by assumption), ?_⟩
    | fail
  refine CV.loopc ?_
  refine WCv.rounds callees false (α := Nat × Value) (fun (i, q) => [(0, v), (1, VU (c : Int)), (5, q), (8, v), (9, VI l.length), (10, VI i)]) (fun (i, q) Hz => i ≤ l.length ∧ Own 3 Hz q ((selX ((bitsB c l.length).take i) (l.take i)).map VI) H.n ∧ Keep H Hz) (fun (i, q) => l.length - i) (0, nilS) (by repeat' first | exact trivial | refine ⟨rfl, ?_⟩ | refine ⟨slot_int (by (try simp only [Int.toNat_natCast]); omega), ?_⟩) ?_ ?_
  · exact ⟨by omega, .inl ⟨rfl, by simp [selX]⟩, Keep.refl _⟩
  rintro ⟨i, q⟩ Hx ⟨hi, hq, kx⟩ hBx
  have hlx : Ints Hx v l := Row.keep hl kx
  have lx := kx.1
  by_cases hi2 : i < l.length
  · have hsn : selX ((bitsB c l.length).take (i + 1)) (l.take (i + 1)) = selX ((bitsB c l.length).take i) (l.take i) ++ (if c.testBit (l.length - 1 - i) then [l[i]!] else []) := by
      rw [one_at (by omega), one_at hi2, selX_snoc (by simp [hbl]), bitsB_at c hi2]
    have hsl := selX_len (bs := (bitsB c l.length).take i) (xs := l.take i)
    rw [List.length_take] at hsl
    have hli : l[(i : Int).toNat]! = l[i]! := rfl
    have hm : ((l.length : Int) - 1 - (i : Int)).toNat = l.length - 1 - i := by omega
    have hsh : c >>> ((l.length : Int) - 1 - (i : Int)).toNat < 2 ^ 64 := Nat.lt_of_le_of_lt (by rw [Nat.shiftRight_eq_div_pow]; exact Nat.div_le_self _ _) (Nat.lt_trans hc (by decide))
    have hba := bit_and (c := c) (m := ((l.length : Int) - 1 - (i : Int)).toNat)
    rw [← hm] at hsn
    obtain ⟨a, ha⟩ : ∃ a, c >>> ((l.length : Int) - 1 - (i : Int)).toNat &&& 1 = a := ⟨_, rfl⟩
    rw [ha] at hba
    by_cases hb : a = 1
    · rw [if_pos (hba.1 hb)] at hsn
      repeat' first
        | refine CO.cons rfl ?_
        | refine CO.nil ?_
        | refine CV.seq ?_
        | refine CV.region callees ?_
        | refine CV.cond ?_
        | refine CV.block ?_
        | refine CV.skip ?_
        | refine ⟨_, ints_len (by assumption), ?_⟩
        | refine ⟨_, ints_addr (by assumption) (by omega) (by omega), ?_⟩
        | refine ⟨_, ints_load (by assumption) (by omega) (by omega), ?_⟩
        | refine ⟨(⟨by omega, by omega⟩ : inI64 _), ?_⟩
        | (refine ⟨_, fun tm ha => shrUu rfl (ev_tmp ha rfl) (ev_tmp ha rfl) (by omega) (by omega), ?_⟩)
        | (refine ⟨_, fun tm ha => andUu (b := 1) rfl (ev_tmp ha rfl) rfl hsh (by decide), ?_⟩)
        | (rw [ha])
        | (refine ⟨_, _, build_one un22 one3 rfl, ?_⟩)
        | (refine ⟨fun _ => ?_, fun _ => ?_⟩ <;> first | (exfalso; omega) | skip)
        | fail
      refine push_ask hq (by omega) hB (by omega) ?_
      intro q6 H6 hq6 kb6 hf6
      have hqb : ∀ c, blkOf q = some c → H.n ≤ c := fun c hc => (hq.lt hc).1
      repeat' first
        | refine CO.cons rfl ?_
        | refine CO.nil ?_
        | refine CV.region callees ?_
        | refine ⟨(⟨by omega, by omega⟩ : inI64 _), ?_⟩
        | fail
      refine ⟨(i + 1, q6), (by repeat' first | exact trivial | refine ⟨rfl, ?_⟩ | refine ⟨slot_int (by (try simp only [Int.toNat_natCast]); omega), ?_⟩), (by (try dsimp only); omega), ?_⟩
      exact ⟨by omega, by rw [hsn]; exact hq6, kb6.keep kx hqb⟩
    · rw [if_neg (fun h => hb (hba.2 h)), List.append_nil] at hsn
      repeat' first
        | refine CO.cons rfl ?_
        | refine CO.nil ?_
        | refine CV.seq ?_
        | refine CV.region callees ?_
        | refine CV.cond ?_
        | refine CV.block ?_
        | refine CV.skip ?_
        | refine ⟨_, ints_len (by assumption), ?_⟩
        | refine ⟨_, ints_addr (by assumption) (by omega) (by omega), ?_⟩
        | refine ⟨_, ints_load (by assumption) (by omega) (by omega), ?_⟩
        | refine ⟨(⟨by omega, by omega⟩ : inI64 _), ?_⟩
        | (refine ⟨_, fun tm ha => shrUu rfl (ev_tmp ha rfl) (ev_tmp ha rfl) (by omega) (by omega), ?_⟩)
        | (refine ⟨_, fun tm ha => andUu (b := 1) rfl (ev_tmp ha rfl) rfl hsh (by decide), ?_⟩)
        | (rw [ha])
        | (refine ⟨fun _ => ?_, fun _ => ?_⟩ <;> first | (exfalso; omega) | skip)
        | fail
      refine ⟨(i + 1, q), (by repeat' first | exact trivial | refine ⟨rfl, ?_⟩ | refine ⟨slot_int (by (try simp only [Int.toNat_natCast]); omega), ?_⟩), (by (try dsimp only); omega), ?_⟩
      exact ⟨by omega, by rw [hsn]; exact hq, kx⟩
  obtain rfl : i = l.length := by omega
  rw [List.take_length, List.take_of_length_le (by omega)] at hq
  repeat' first
    | refine CO.cons rfl ?_
    | refine CO.nil ?_
    | refine CV.seq ?_
    | refine CV.region callees ?_
    | refine CV.cond ?_
    | refine CV.exit ?_
    | refine CV.ret ?_
    | (refine ⟨fun _ => ?_, fun _ => ?_⟩ <;> first | (exfalso; omega) | skip)
    | fail
  exact ⟨by simp only [List.all_cons, List.all_nil, hq.notTuple]; rfl, hq, kx⟩
end Go.Proofs.Ytjjmnfgnlcbfhaa
