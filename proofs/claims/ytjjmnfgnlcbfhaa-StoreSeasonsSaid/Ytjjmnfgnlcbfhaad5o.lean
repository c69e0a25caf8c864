
/- The reference's Chosen and Before. -/
import Derived.Test.Ytjjmnfgnlcbfhaad4o
set_option linter.unusedVariables false
set_option linter.unusedSimpArgs false
namespace Go.Proofs.Ytjjmnfgnlcbfhaa
open Go.AI
/-- The first bits of a set, the lowest first. -/
def setB' (s : Nat) : Nat → List Bool
  | 0 => []
  | n + 1 => setB' s n ++ [s.testBit n]
theorem setB_len {s : Nat} : ∀ n, (setB' s n).length = n
  | 0 => rfl
  | n + 1 => by rw [setB', List.length_append, setB_len n]; rfl
theorem selB_snoc : ∀ {bs : List Bool} {k : Nat} {b : Bool}, selB k (bs ++ [b]) = selB k bs ++ (if b then [((k + bs.length : Nat) : Int)] else [])
  | [], k, b => by cases b <;> simp [selB]
  | c :: bs, k, b => by
    have ih := selB_snoc (bs := bs) (k := k + 1) (b := b)
    have e : k + 1 + bs.length = k + (bs.length + 1) := by omega
    rw [e] at ih
    cases c <;> simp [selB, ih]
theorem selB_lt : ∀ {bs : List Bool} {k : Nat} {x : Int}, x ∈ selB k bs → x < ((k + bs.length : Nat) : Int)
  | [], k, x, h => by simp [selB] at h
  | b :: t, k, x, h => by
    rw [List.length_cons]
    rw [selB] at h
    split at h
    · rcases List.mem_cons.1 h with rfl | h
      · omega
      · have := selB_lt h; omega
    · have := selB_lt h; omega
/-- What is chosen, by its numbers. -/
theorem selX_at {l : List Lo} : ∀ {n : Nat} {bs : List Bool}, bs.length = n → n ≤ l.length → selX bs (l.take n) = (selB 0 bs).map fun k => l[k.toNat]!
  | 0, bs, hb, _ => by
    rw [List.length_eq_zero_iff.1 hb]
    simp [selX, selB]
  | n + 1, bs, hb, hn => by
    rcases List.eq_nil_or_concat bs with rfl | ⟨cs, b, rfl⟩
    · simp at hb
    · rw [List.concat_eq_append] at hb ⊢
      rw [List.length_append, List.length_singleton] at hb
      rw [one_at (by omega), selX_snoc (by rw [List.length_take]; omega), selX_at (n := n) (by omega) (by omega), selB_snoc, List.map_append]
      congr 1
      cases b
      · rfl
      · simp only [if_true, List.map_cons, List.map_nil]
        congr 2
        omega
theorem accP_snoc {l : List Lo} {x : Lo} : AccP (l ++ [x]) ↔ AccP l ∧ ∀ y ∈ l, contra y x = false := by
  have g1 : ∀ {a}, a < l.length → (l ++ [x])[a]! = l[a]! := fun {a} ha => by
    rw [getElem!_pos (l ++ [x]) a (by simp; omega), List.getElem_append_left ha, getElem!_pos l a ha]
  have g2 : (l ++ [x])[l.length]! = x := by
    rw [getElem!_pos (l ++ [x]) l.length (by simp), List.getElem_append_right (Nat.le_refl _)]
    simp
  constructor
  · intro h
    refine ⟨fun i hi j hj => ?_, fun y hy => ?_⟩
    · have := h i (by simp; omega) j hj
      rwa [g1 hi, g1 (by omega)] at this
    · obtain ⟨j, hj, rfl⟩ := List.mem_iff_getElem.1 hy
      have := h l.length (by simp) j hj
      rw [g2, g1 hj, getElem!_pos l j hj] at this
      rw [contra_symm]; exact this
  · rintro ⟨h1, h2⟩ i hi j hj
    rw [List.length_append, List.length_singleton] at hi
    by_cases e : i = l.length
    · subst e
      rw [g2, g1 hj, contra_symm]
      exact h2 _ (by rw [getElem!_pos l j hj]; exact List.getElem_mem _)
    · rw [g1 (by omega), g1 (by omega)]
      exact h1 i (by omega) j hj
/-- The loans of a set. -/
def setL (l : List Lo) (s n : Nat) : List Lo := (selB 0 (setB' s n)).map fun k => l[k.toNat]!
theorem setL_succ {l : List Lo} {s n : Nat} : setL l s (n + 1) = setL l s n ++ (if s.testBit n then [l[n]!] else []) := by
  unfold setL
  rw [setB', selB_snoc, setB_len, List.map_append]
  congr 1
  cases s.testBit n
  · rfl
  · simp
theorem shrI {P : Program} {tm : Tm} {H : Heap} {q : Oper} {t u : TypeId} {x y : Operand} {a i : Nat} (ho : q.op = .binOp .shr t x y u) (hx : ev P tm x = some (VI (a : Int))) (hy : ev P tm y = some (VI (i : Int))) (h1 : i < 64) : step1 P tm H q = some (VI ((a >>> i : Nat) : Int), H, H.n) := by
  rw [step1_shr ho hx hy (by omega)]
  rw [show IntKind.bits .i64 = 64 from rfl, Nat.min_eq_left (by omega), Int.fdiv_eq_ediv_of_nonneg _ (Int.pow_nonneg (by decide)), Nat.shiftRight_eq_div_pow]
  simp
theorem andI {a b : Nat} (ha : a < 2 ^ 32) (hb : b < 2 ^ 32) : IntKind.wrap .i64 ((BitVec.ofInt (IntKind.bits .i64) (a : Int) &&& BitVec.ofInt (IntKind.bits .i64) (b : Int)).toNat) = ((a &&& b : Nat) : Int) := by
  have h2 : (2 : Nat) ^ 32 = 4294967296 := by decide
  have ha' : a < 2 ^ 64 := Nat.lt_trans ha (by decide)
  have hb' : b < 2 ^ 64 := Nat.lt_trans hb (by decide)
  rw [show IntKind.bits .i64 = 64 from rfl, bvN, bvN, BitVec.toNat_and, BitVec.toNat_ofNat, BitVec.toNat_ofNat, Nat.mod_eq_of_lt ha', Nat.mod_eq_of_lt hb']
  have := Nat.and_le_left (n := a) (m := b)
  exact wrapI (by omega) (by omega)
theorem andIs {P : Program} {tm : Tm} {H : Heap} {q : Oper} {t u : TypeId} {x y : Operand} {a b : Nat} (ho : q.op = .binOp .and t x y u) (hx : ev P tm x = some (VI (a : Int))) (hy : ev P tm y = some (VI (b : Int))) (ha : a < 2 ^ 32) (hb : b < 2 ^ 32) : step1 P tm H q = some (VI ((a &&& b : Nat) : Int), H, H.n) := by
  rw [step1_bits (.inr (.inl rfl)) ho hx hy rfl rfl, andI ha hb]
theorem accP_pre {a b : List Lo} (h : a <+: b) (hb : AccP b) : AccP a := by
  obtain ⟨c, rfl⟩ := h
  intro i hi j hj
  have := hb i (by simp; omega) j hj
  rwa [getElem!_pos (a ++ c) i (by simp; omega), getElem!_pos (a ++ c) j (by simp; omega), List.getElem_append_left hi, List.getElem_append_left (by omega), ← getElem!_pos a i hi, ← getElem!_pos a j (by omega)] at this
theorem setL_pre {l : List Lo} {s n : Nat} : ∀ {d : Nat}, setL l s n <+: setL l s (n + d)
  | 0 => List.prefix_refl _
  | d + 1 => by
    refine List.IsPrefix.trans (setL_pre (d := d)) ?_
    rw [show n + (d + 1) = n + d + 1 by omega, setL_succ]
    exact List.prefix_append _ _
theorem setL_w {l : List Lo} {s : Nat} (hw : ∀ x ∈ l, 0 ≤ x.w ∧ x.w ≤ 1000) : ∀ {n : Nat}, n ≤ l.length → (setL l s n).length ≤ n ∧ ∀ x ∈ setL l s n, 0 ≤ x.w ∧ x.w ≤ 1000
  | 0, _ => by simp [setL, setB', selB]
  | n + 1, hn => by
    have ih := setL_w hw (s := s) (n := n) (by omega)
    rw [setL_succ]
    have hm := hw l[n]! (by rw [getElem!_pos l n (by omega)]; exact List.getElem_mem _)
    cases s.testBit n
    · simp only [Bool.false_eq_true, if_false, List.append_nil]
      exact ⟨by omega, ih.2⟩
    · simp only [if_true]
      refine ⟨by simp; omega, fun x hx => ?_⟩
      rcases List.mem_append.1 hx with h | h
      · exact ih.2 x h
      · rw [List.mem_singleton] at h; subst h; exact hm
set_option maxHeartbeats 8000000 in
set_option maxRecDepth 100000 in
theorem chosenR_spec [Orc] {B s : Nat} {H : Heap} {v : Value} {l : List Lo} (hB : B ≤ H.n) (hl : RowS 4 H v (l.map Lol)) (hn : l.length ≤ 20) (hs : s < 2 ^ 32) (hw : ∀ x ∈ l, 0 ≤ x.w ∧ x.w ≤ 1000) :
    CallB Try.prog B 67 [v, VI (s : Int)] H (fun r H' => ((AccP (setL l s l.length) ∧ ∃ q, r = .tuple #[q, VI (wsum (setL l s l.length)), .bool true] ∧ Own 3 H' q ((selB 0 (setB' s l.length)).map VI) H.n) ∨ (¬ AccP (setL l s l.length) ∧ r = .tuple #[nilS, VI 0, .bool false])) ∧ Keep H H') := by
  refine CV.enter callees false (Orc.hv rfl rfl) Try.func67 rfl (by kernel_rfl) (Nat.le_of_ble_eq_true rfl) hB ?_ (Orc.hw rfl rfl)
  repeat' first
    | refine CO.cons rfl ?_
    | refine CO.nil ?_
    | refine CV.seq ?_
    | refine CV.region callees ?_
    | refine CV.block ?_
    | fail
  refine CV.loopc ?_
  refine WCv.rounds callees false (α := Nat × Value) (fun (i, q) => [(0, v), (1, VI (s : Int)), (7, q), (8, VI (wsum (setL l s i))), (9, VI i)]) (fun (i, q) Hz => i ≤ l.length ∧ AccP (setL l s i) ∧ Own 3 Hz q ((selB 0 (setB' s i)).map VI) H.n ∧ Keep H Hz) (fun (i, q) => l.length - i) (0, nilS) (by repeat' first | exact trivial | refine ⟨rfl, ?_⟩ | refine ⟨slot_int (by (try simp only [Int.toNat_natCast]); omega), ?_⟩) ?_ ?_
  · exact ⟨by omega, fun i hi => by simp [setL, setB', selB] at hi, .inl ⟨rfl, rfl⟩, Keep.refl _⟩
  rintro ⟨i, q⟩ Hx ⟨hi, hac, hq, kx⟩ hBx
  have hlx := hl.keep kx
  have lx := kx.1
  by_cases hi2 : i < l.length
  · have hsu := setL_succ (l := l) (s := s) (n := i)
    have hbu : setB' s (i + 1) = setB' s i ++ [s.testBit i] := rfl
    have hsl := selB_snoc (bs := setB' s i) (k := 0) (b := s.testBit i)
    rw [setB_len, ← hbu] at hsl
    have hba := bit_and (c := s) (m := i)
    have hsh : s >>> i < 2 ^ 32 := Nat.lt_of_le_of_lt (by rw [Nat.shiftRight_eq_div_pow]; exact Nat.div_le_self _ _) hs
    obtain ⟨a, ha⟩ : ∃ a, s >>> i &&& 1 = a := ⟨_, rfl⟩
    rw [ha] at hba
    have ha1 : a ≤ 1 := by rw [← ha]; exact Nat.and_le_right
    by_cases hb : a = 1
    rotate_left
    · have htb : s.testBit i = false := by
        cases ht : s.testBit i with
        | false => rfl
        | true => exact absurd (hba.2 ht) hb
      rw [htb] at hsu hsl
      simp only [Bool.false_eq_true, if_false, List.append_nil] at hsu hsl
      have hw0 : wsum (setL l s (i + 1)) = wsum (setL l s i) := by rw [hsu]
      repeat' first
        | refine CO.cons rfl ?_
        | refine CO.nil ?_
        | refine CV.seq ?_
        | refine CV.region callees ?_
        | refine CV.cond ?_
        | refine CV.block ?_
        | refine CV.skip ?_
        | refine CV.exit ?_
        | refine ⟨(⟨by omega, by omega⟩ : inI64 _), ?_⟩
        | (refine ⟨_, lo_len hlx, ?_⟩)
        | (refine ⟨_, fun tm ha => shrI rfl (ev_tmp ha rfl) (ev_tmp ha rfl) (by omega), ?_⟩)
        | (refine ⟨_, fun tm ha => andIs (b := 1) rfl (ev_tmp ha rfl) rfl hsh (by decide), ?_⟩)
        | (rw [ha])
        | (refine ⟨fun _ => ?_, fun _ => ?_⟩ <;> first | (exfalso; omega) | skip)
        | fail
      refine ⟨(i + 1, q), (by repeat' first | exact trivial | refine ⟨rfl, ?_⟩ | refine ⟨slot_int (by (try simp only [Int.toNat_natCast]); omega), ?_⟩), (by (try dsimp only); omega), ?_⟩
      exact ⟨by omega, by rw [hsu]; exact hac, by rw [hsl]; exact hq, kx⟩
    have htb : s.testBit i = true := hba.1 hb
    rw [htb] at hsu hsl
    simp only [if_true, Nat.zero_add] at hsu hsl
    obtain ⟨O, hO⟩ : ∃ O, selB 0 (setB' s i) = O := ⟨_, rfl⟩
    have hOb : ∀ m, m < O.length → 0 ≤ O[m]! ∧ O[m]! < i := fun m hm => by
      have hmem : O[m]! ∈ selB 0 (setB' s i) := by rw [hO, getElem!_pos O m hm]; exact List.getElem_mem _
      have h1 := selB_ge hmem
      have h2 := selB_lt hmem
      rw [setB_len] at h2
      omega
    have hset : setL l s i = O.map fun k => l[k.toNat]! := by unfold setL; rw [hO]
    have hOl : O.length ≤ i := by
      have := (setL_w hw (s := s) hi).1
      rw [hset, List.length_map] at this
      exact this
    rw [hO] at hq hsl
    have hqr : Ints Hx q O := hq.row
    repeat' first
      | refine CO.cons rfl ?_
      | refine CO.nil ?_
      | refine CV.seq ?_
      | refine CV.region callees ?_
      | refine CV.cond ?_
      | refine CV.block ?_
      | refine CV.skip ?_
      | (refine ⟨_, lo_len hlx, ?_⟩)
      | (refine ⟨_, fun tm ha => shrI rfl (ev_tmp ha rfl) (ev_tmp ha rfl) (by omega), ?_⟩)
      | (refine ⟨_, fun tm ha => andIs (b := 1) rfl (ev_tmp ha rfl) rfl hsh (by decide), ?_⟩)
      | (rw [ha])
      | (refine ⟨fun _ => ?_, fun _ => ?_⟩ <;> first | (exfalso; omega) | skip)
      | fail
    refine CV.loopc ?_
    refine WCv.rounds callees false (α := Nat) (fun k => [(0, v), (1, VI (s : Int)), (7, q), (8, VI (wsum (setL l s i))), (9, VI i), (10, VI k)]) (fun k Hz => k ≤ O.length ∧ (∀ m, m < k → contra l[O[m]!.toNat]! l[i]! = false) ∧ Keep Hx Hz) (fun k => O.length - k) (0) (by repeat' first | exact trivial | refine ⟨rfl, ?_⟩ | refine ⟨slot_int (by (try simp only [Int.toNat_natCast]); omega), ?_⟩) ?_ ?_
    · exact ⟨by omega, fun m h => by omega, Keep.refl _⟩
    rintro k Hy ⟨hk, hck, ky⟩ hBy
    have hqy : Ints Hy q O := Row.keep hqr ky
    have hly := hlx.keep ky
    have ly := ky.1
    by_cases hk2 : k < O.length
    · have hob := hOb k hk2
      have hok : O[(k : Int).toNat]! = O[k]! := rfl
      have hld := lo_load hly (j := O[k]!.toNat) (by omega)
      have hldi := lo_load hly (j := i) hi2
      have hcons : AccP (setL l s l.length) → AccP (setL l s i) ∧ ∀ y ∈ setL l s i, contra y l[i]! = false := fun hh => by
        have hp := setL_pre (l := l) (s := s) (n := i + 1) (d := l.length - (i + 1))
        rw [show i + 1 + (l.length - (i + 1)) = l.length by omega] at hp
        have := accP_pre hp hh
        rw [hsu] at this
        exact accP_snoc.1 this
      repeat' first
        | refine CO.cons rfl ?_
        | refine CO.nil ?_
        | refine CV.seq ?_
        | refine CV.region callees ?_
        | refine CV.cond ?_
        | refine CV.block ?_
        | refine CV.skip ?_
        | refine CV.draw callees (by decide +kernel) ?_
        | refine CH.cons rfl ?_
        | refine CH.nil ?_
        | refine ⟨_, ints_len (by assumption), ?_⟩
        | refine ⟨_, ints_addr (by assumption) (by omega) (by omega), ?_⟩
        | refine ⟨_, ints_load (by assumption) (by omega) (by omega), ?_⟩
        | (rw [hok])
        | (refine ⟨_, lo_addr hly (by omega) (by omega), ?_⟩)
        | (refine ⟨_, hld, ?_⟩)
        | (refine ⟨_, hldi, ?_⟩)
        | (refine ⟨fun _ => ?_, fun _ => ?_⟩ <;> first | (exfalso; omega) | skip)
        | fail
      refine (against_spec (by omega)).mono ?_
      cases hc : contra l[O[k]!.toNat]! l[i]!
      · rintro r H8 ⟨rfl, k8⟩
        repeat' first
          | refine CO.cons rfl ?_
          | refine CO.nil ?_
          | refine CV.region callees ?_
          | refine CV.cond ?_
          | refine CV.skip ?_
          | refine CH.nil ?_
          | refine ⟨(⟨by omega, by omega⟩ : inI64 _), ?_⟩
          | fail
        refine ⟨(k + 1), (by repeat' first | exact trivial | refine ⟨rfl, ?_⟩ | refine ⟨slot_int (by (try simp only [Int.toNat_natCast]); omega), ?_⟩), (by (try dsimp only); omega), ?_⟩
        refine ⟨by omega, fun m hm => ?_, ky.trans k8⟩
        by_cases e : m = k
        · subst e; exact hc
        · exact hck m (by omega)
      · rintro r H8 ⟨rfl, k8⟩
        repeat' first
          | refine CO.cons rfl ?_
          | refine CO.nil ?_
          | refine CV.seq ?_
          | refine CV.region callees ?_
          | refine CV.cond ?_
          | refine CV.ret ?_
          | refine CH.nil ?_
          | fail
        refine ⟨rfl, .inr ⟨fun h => ?_, rfl⟩, (kx.trans ky).trans k8⟩
        have := (hcons h).2 l[O[k]!.toNat]! (by rw [hset]; exact List.mem_map_of_mem (by rw [getElem!_pos O k hk2]; exact List.getElem_mem _))
        rw [hc] at this
        cases this
    obtain rfl : k = O.length := by omega
    have hac2 : AccP (setL l s (i + 1)) := by
      rw [hsu, accP_snoc]
      refine ⟨hac, fun y hy => ?_⟩
      rw [hset] at hy
      obtain ⟨z, hz, rfl⟩ := List.mem_map.1 hy
      obtain ⟨m, hm, rfl⟩ := List.mem_iff_getElem.1 hz
      have := hck m hm
      rwa [getElem!_pos O m hm] at this
    have hws : wsum (setL l s (i + 1)) = wsum (setL l s i) + l[i]!.w := by rw [hsu, wsum_app]; simp [wsum]
    have hsw := setL_w hw (s := s) hi
    have hwb := wsum_bd hsw.2
    have hsw1 := hsw.1
    have hf3 := lo_f hly (j := i) foO3 (by decide) hi2
    have hv3 : aload Try.prog 3 Hy (fieldOf (elemS v 4 i) 3) = some (VI l[i]!.w) := lo_l hly hi2 rfl
    have hwi := hw l[i]! (by rw [getElem!_pos l i hi2]; exact List.getElem_mem _)
    have hqy' : Own 3 Hy q (O.map VI) H.n := hq.keep ky
    have hqb : ∀ c, blkOf q = some c → H.n ≤ c := fun c hc => (hqy'.lt hc).1
    have kyall := kx.trans ky
    have kN := Keep.new Hy (.cells [VI i] 3 2)
    repeat' first
      | refine CO.cons rfl ?_
      | refine CO.nil ?_
      | refine CV.seq ?_
      | refine CV.region callees ?_
      | refine CV.cond ?_
      | refine CV.exit ?_
      | refine ⟨_, ints_len (by assumption), ?_⟩
      | (refine ⟨fun _ => ?_, fun _ => ?_⟩ <;> first | (exfalso; omega) | skip)
      | fail
    refine CV.wideR callees (by decide +kernel) [(0, []), (1, []), (4, []), (5, []), (6, []), (7, []), (8, []), (9, []), (10, []), (2, [10, 9]), (3, [10, 9]), (11, [10, 9]), (12, [])] (by kernel_rfl) ?_
    repeat' first
      | refine CR.cons ?_
      | refine ⟨(⟨by omega, by omega⟩ : inI64 _), ?_⟩
      | (refine ⟨_, lo_addr hly (by omega) (by omega), ?_⟩)
      | (refine ⟨_, hf3, ?_⟩)
      | (refine ⟨_, hv3, ?_⟩)
      | (refine ⟨_, _, build_one un22 one3 rfl, ?_⟩)
      | fail
    refine push_ask hqy' (by omega) hB (by omega) ?_
    intro q6 H6 hq6 kb6 hf6
    have hl6 : RowS 4 H6 v (l.map Lol) := hl.keep (kb6.keep kyall hqb)
    have hv6 : aload Try.prog 3 H6 (fieldOf (elemS v 4 i) 3) = some (VI l[i]!.w) := lo_l hl6 hi2 rfl
    repeat' first
      | refine CO.cons rfl ?_
      | refine CO.nil ?_
      | refine CV.region callees ?_
      | refine CR.cons ?_
      | refine CR.nil ?_
      | refine ⟨(⟨by omega, by omega⟩ : inI64 _), ?_⟩
      | (refine ⟨(rfl : _ = Value.int _ _), ?_⟩)
      | (refine ⟨same_int, ?_⟩)
      | (refine ⟨_, hv6, ?_⟩)
      | fail
    refine ⟨(i + 1, q6), (by repeat' first | exact trivial | refine ⟨rfl, ?_⟩ | refine ⟨slot_int (by (try simp only [Int.toNat_natCast]); omega), ?_⟩), (by (try dsimp only); omega), ?_⟩
    exact ⟨by omega, hac2, by rw [hsl]; exact hq6, kb6.keep kyall hqb⟩
  obtain rfl : i = l.length := by omega
  repeat' first
    | refine CO.cons rfl ?_
    | refine CO.nil ?_
    | refine CV.seq ?_
    | refine CV.region callees ?_
    | refine CV.cond ?_
    | refine CV.exit ?_
    | refine CV.ret ?_
    | (refine ⟨_, lo_len hlx, ?_⟩)
    | (refine ⟨fun _ => ?_, fun _ => ?_⟩ <;> first | (exfalso; omega) | skip)
    | fail
  exact ⟨by simp only [List.all_cons, List.all_nil, hq.notTuple]; rfl, .inl ⟨hac, q, rfl, hq⟩, kx⟩
set_option maxRecDepth 100000 in
theorem before_spec [Orc] {B : Nat} {H : Heap} {av bv : Value} {a b : List Int} (hB : B ≤ H.n) (ha : Ints H av a) (hb : Ints H bv b) (hl : a.length = b.length) (hn : a.length < 1000000) :
    CallB Try.prog B 68 [av, bv] H (fun v H' => v = .bool (befL a b) ∧ Keep H H') := by
  refine CV.enter callees false (Orc.hv rfl rfl) Try.func68 rfl (by kernel_rfl) (Nat.le_of_ble_eq_true rfl) hB ?_ (Orc.hw rfl rfl)
  repeat' first
    | refine CO.cons rfl ?_
    | refine CO.nil ?_
    | refine CV.seq ?_
    | refine CV.region callees ?_
    | refine CV.block ?_
    | fail
  refine CV.loopc ?_
  refine WCv.rounds callees false (α := Nat) (fun i => [(0, av), (1, bv), (5, VI i)]) (fun i Hz => i ≤ a.length ∧ befL (a.drop i) (b.drop i) = befL a b ∧ Keep H Hz) (fun i => a.length - i) (0) (by repeat' first | exact trivial | refine ⟨rfl, ?_⟩ | refine ⟨slot_int (by (try simp only [Int.toNat_natCast]); omega), ?_⟩) ?_ ?_
  · exact ⟨by omega, rfl, Keep.refl _⟩
  rintro i Hx ⟨hi, hw, kx⟩ hBx
  have hax : Ints Hx av a := Row.keep ha kx
  have hbx : Ints Hx bv b := Row.keep hb kx
  by_cases hi2 : i < a.length
  · rw [drop_cons hi2, drop_cons (show i < b.length by omega)] at hw
    simp only [befL] at hw
    have hai : a[(i : Int).toNat]! = a[i]! := rfl
    have hbi : b[(i : Int).toNat]! = b[i]! := rfl
    by_cases e : a[i]! = b[i]!
    · rw [if_pos e] at hw
      repeat' first
        | refine CO.cons rfl ?_
        | refine CO.nil ?_
        | refine CV.seq ?_
        | refine CV.region callees ?_
        | refine CV.cond ?_
        | refine CV.block ?_
        | refine CV.skip ?_
        | refine CV.draw callees (by decide +kernel) ?_
        | refine CH.cons rfl ?_
        | refine CH.nil ?_
        | refine ⟨_, ints_len (by assumption), ?_⟩
        | refine ⟨_, ints_addr (by assumption) (by omega) (by omega), ?_⟩
        | refine ⟨_, ints_load (by assumption) (by omega) (by omega), ?_⟩
        | refine ⟨(⟨by omega, by omega⟩ : inI64 _), ?_⟩
        | (refine ⟨fun _ => ?_, fun _ => ?_⟩ <;> first | (exfalso; omega) | skip)
        | fail
      refine ⟨(i + 1), (by repeat' first | exact trivial | refine ⟨rfl, ?_⟩ | refine ⟨slot_int (by (try simp only [Int.toNat_natCast]); omega), ?_⟩), (by (try dsimp only); omega), ?_⟩
      exact ⟨by omega, hw, kx⟩
    · rw [if_neg e] at hw
      rw [← hw]
      by_cases c : a[i]! < b[i]!
      · rw [decide_eq_true c]
        repeat' first
          | refine CO.cons rfl ?_
          | refine CO.nil ?_
          | refine CV.seq ?_
          | refine CV.region callees ?_
          | refine CV.cond ?_
          | refine CV.block ?_
          | refine CV.skip ?_
          | refine CV.ret ?_
          | refine CV.draw callees (by decide +kernel) ?_
          | refine CH.cons rfl ?_
          | refine CH.nil ?_
          | refine ⟨_, ints_len (by assumption), ?_⟩
          | refine ⟨_, ints_addr (by assumption) (by omega) (by omega), ?_⟩
          | refine ⟨_, ints_load (by assumption) (by omega) (by omega), ?_⟩
          | (refine ⟨fun _ => ?_, fun _ => ?_⟩ <;> first | (exfalso; omega) | skip)
          | fail
        exact ⟨rfl, rfl, kx⟩
      · rw [decide_eq_false c]
        repeat' first
          | refine CO.cons rfl ?_
          | refine CO.nil ?_
          | refine CV.seq ?_
          | refine CV.region callees ?_
          | refine CV.cond ?_
          | refine CV.block ?_
          | refine CV.skip ?_
          | refine CV.ret ?_
          | refine CV.draw callees (by decide +kernel) ?_
          | refine CH.cons rfl ?_
          | refine CH.nil ?_
          | refine ⟨_, ints_len (by assumption), ?_⟩
          | refine ⟨_, ints_addr (by assumption) (by omega) (by omega), ?_⟩
          | refine ⟨_, ints_load (by assumption) (by omega) (by omega), ?_⟩
          | (refine ⟨fun _ => ?_, fun _ => ?_⟩ <;> first | (exfalso; omega) | skip)
          | fail
        exact ⟨rfl, rfl, kx⟩
  obtain rfl : i = a.length := by omega
  rw [List.drop_length] at hw
  rw [← hw]
  repeat' first
    | refine CO.cons rfl ?_
    | refine CO.nil ?_
    | refine CV.seq ?_
    | refine CV.region callees ?_
    | refine CV.cond ?_
    | refine CV.exit ?_
    | refine CV.ret ?_
    | refine ⟨_, ints_len (by assumption), ?_⟩
    | (refine ⟨fun _ => ?_, fun _ => ?_⟩ <;> first | (exfalso; omega) | skip)
    | fail
  exact ⟨rfl, rfl, kx⟩
set_option maxRecDepth 100000 in
theorem eqInts_spec [Orc] {B : Nat} {H : Heap} {av bv : Value} {a b : List Int} (hB : B ≤ H.n) (ha : Ints H av a) (hb : Ints H bv b) (hn : a.length < 1000000) :
    CallB Try.prog B 37 [av, bv] H (fun v H' => v = .bool (decide (a = b)) ∧ Keep H H') := by
  refine CV.enter callees false (Orc.hv rfl rfl) Try.func37 rfl (by kernel_rfl) (Nat.le_of_ble_eq_true rfl) hB ?_ (Orc.hw rfl rfl)
  by_cases hl : a.length = b.length
  · repeat' first
      | refine CO.cons rfl ?_
      | refine CO.nil ?_
      | refine CV.seq ?_
      | refine CV.region callees ?_
      | refine CV.cond ?_
      | refine CV.block ?_
      | refine CV.skip ?_
      | refine ⟨_, ints_len (by assumption), ?_⟩
      | (refine ⟨fun _ => ?_, fun _ => ?_⟩ <;> first | (exfalso; omega) | skip)
      | fail
    refine CV.loopc ?_
    refine WCv.rounds callees false (α := Nat) (fun i => [(0, av), (1, bv), (5, VI i)]) (fun i Hz => i ≤ a.length ∧ (∀ j, j < i → a[j]! = b[j]!) ∧ Keep H Hz) (fun i => a.length - i) (0) (by repeat' first | exact trivial | refine ⟨rfl, ?_⟩ | refine ⟨slot_int (by (try simp only [Int.toNat_natCast]); omega), ?_⟩) ?_ ?_
    · exact ⟨by omega, fun j hj => by omega, Keep.refl _⟩
    rintro i Hx ⟨hi, hw, kx⟩ hBx
    have hax : Ints Hx av a := Row.keep ha kx
    have hbx : Ints Hx bv b := Row.keep hb kx
    by_cases hi2 : i < a.length
    · have hai : a[(i : Int).toNat]! = a[i]! := rfl
      have hbi : b[(i : Int).toNat]! = b[i]! := rfl
      by_cases e : a[i]! = b[i]!
      · repeat' first
          | refine CO.cons rfl ?_
          | refine CO.nil ?_
          | refine CV.seq ?_
          | refine CV.region callees ?_
          | refine CV.cond ?_
          | refine CV.block ?_
          | refine CV.skip ?_
          | refine CV.draw callees (by decide +kernel) ?_
          | refine CH.cons rfl ?_
          | refine CH.nil ?_
          | refine ⟨_, ints_len (by assumption), ?_⟩
          | refine ⟨_, ints_addr (by assumption) (by omega) (by omega), ?_⟩
          | refine ⟨_, ints_load (by assumption) (by omega) (by omega), ?_⟩
          | refine ⟨(⟨by omega, by omega⟩ : inI64 _), ?_⟩
          | (refine ⟨fun _ => ?_, fun _ => ?_⟩ <;> first | (exfalso; omega) | skip)
          | fail
        refine ⟨(i + 1), (by repeat' first | exact trivial | refine ⟨rfl, ?_⟩ | refine ⟨slot_int (by (try simp only [Int.toNat_natCast]); omega), ?_⟩), (by (try dsimp only); omega), ?_⟩
        refine ⟨by omega, fun j hj => ?_, kx⟩
        by_cases c : j = i
        · rw [c]; exact e
        · exact hw j (by omega)
      · have hne : ¬ a = b := fun h => e (by rw [h])
        rw [decide_eq_false hne]
        repeat' first
          | refine CO.cons rfl ?_
          | refine CO.nil ?_
          | refine CV.seq ?_
          | refine CV.region callees ?_
          | refine CV.cond ?_
          | refine CV.block ?_
          | refine CV.skip ?_
          | refine CV.ret ?_
          | refine CV.draw callees (by decide +kernel) ?_
          | refine CH.cons rfl ?_
          | refine CH.nil ?_
          | refine ⟨_, ints_len (by assumption), ?_⟩
          | refine ⟨_, ints_addr (by assumption) (by omega) (by omega), ?_⟩
          | refine ⟨_, ints_load (by assumption) (by omega) (by omega), ?_⟩
          | (refine ⟨fun _ => ?_, fun _ => ?_⟩ <;> first | (exfalso; omega) | skip)
          | fail
        exact ⟨rfl, rfl, kx⟩
    obtain rfl : i = a.length := by omega
    have heq : a = b := by
      apply List.ext_getElem hl
      intro j h1 h2
      have := hw j h1
      rw [getElem!_pos a j h1, getElem!_pos b j h2] at this
      exact this
    rw [decide_eq_true heq]
    repeat' first
      | refine CO.cons rfl ?_
      | refine CO.nil ?_
      | refine CV.seq ?_
      | refine CV.region callees ?_
      | refine CV.cond ?_
      | refine CV.exit ?_
      | refine CV.ret ?_
      | refine ⟨_, ints_len (by assumption), ?_⟩
      | (refine ⟨fun _ => ?_, fun _ => ?_⟩ <;> first | (exfalso; omega) | skip)
      | fail
    exact ⟨rfl, rfl, kx⟩
  · have hne : ¬ a = b := fun h => hl (by rw [h])
    rw [decide_eq_false hne]
    repeat' first
      | refine CO.cons rfl ?_
      | refine CO.nil ?_
      | refine CV.seq ?_
      | refine CV.region callees ?_
      | refine CV.cond ?_
      | refine CV.ret ?_
      | refine ⟨_, ints_len (by assumption), ?_⟩
      | (refine ⟨fun _ => ?_, fun _ => ?_⟩ <;> first | (exfalso; omega) | skip)
      | fail
    exact ⟨rfl, rfl, Keep.refl _⟩
end Go.Proofs.Ytjjmnfgnlcbfhaa
