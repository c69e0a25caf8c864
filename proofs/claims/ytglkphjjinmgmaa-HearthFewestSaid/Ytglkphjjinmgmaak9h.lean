
/- HearthFewest. -/
import Derived.Test.YtglkphjjinmgmaaL2
import Derived.Test.Ytglkphjjinmgmaak8h
import Derived.Test.YtglkphjjinmgmaaXfh
set_option linter.unusedVariables false
set_option linter.unusedSimpArgs false
namespace Go.Proofs.Ytglkphjjinmgmaa
open Go.AI
theorem bvNk {n : Nat} : BitVec.ofInt 64 (n : Int) = BitVec.ofNat 64 n := by
  apply BitVec.eq_of_toNat_eq
  rw [BitVec.toNat_ofInt, BitVec.toNat_ofNat]
  omega
theorem shrI {P : Program} {tm : Tm} {H : Heap} {q : Oper} {t u : TypeId} {x y : Operand} {a i : Nat} (ho : q.op = .binOp .shr t x y u) (hx : ev P tm x = some (VJ (a : Int))) (hy : ev P tm y = some (VJ (i : Int))) (h1 : i < 64) : step1 P tm H q = some (VJ ((a >>> i : Nat) : Int), H, H.n) := by
  rw [step1_shr ho hx hy (by omega)]
  rw [show IntKind.bits .i64 = 64 from rfl, Nat.min_eq_left (by omega), Int.fdiv_eq_ediv_of_nonneg _ (Int.pow_nonneg (by decide)), Nat.shiftRight_eq_div_pow]
  simp
theorem andI {a b : Nat} (ha : a < 2 ^ 32) (hb : b < 2 ^ 32) : IntKind.wrap .i64 ((BitVec.ofInt (IntKind.bits .i64) (a : Int) &&& BitVec.ofInt (IntKind.bits .i64) (b : Int)).toNat) = ((a &&& b : Nat) : Int) := by
  have h2 : (2 : Nat) ^ 32 = 4294967296 := by decide
  have ha' : a < 2 ^ 64 := Nat.lt_trans ha (by decide)
  have hb' : b < 2 ^ 64 := Nat.lt_trans hb (by decide)
  rw [show IntKind.bits .i64 = 64 from rfl, bvNk, bvNk, BitVec.toNat_and, BitVec.toNat_ofNat, BitVec.toNat_ofNat, Nat.mod_eq_of_lt ha', Nat.mod_eq_of_lt hb']
  have := Nat.and_le_left (n := a) (m := b)
  exact wrapI (by omega) (by omega)
theorem andIs {P : Program} {tm : Tm} {H : Heap} {q : Oper} {t u : TypeId} {x y : Operand} {a b : Nat} (ho : q.op = .binOp .and t x y u) (hx : ev P tm x = some (VJ (a : Int))) (hy : ev P tm y = some (VJ (b : Int))) (ha : a < 2 ^ 32) (hb : b < 2 ^ 32) : step1 P tm H q = some (VJ ((a &&& b : Nat) : Int), H, H.n) := by
  rw [step1_bits (.inr (.inl rfl)) ho hx hy rfl rfl, andI ha hb]
theorem shlI {P : Program} {tm : Tm} {H : Heap} {q : Oper} {t u : TypeId} {x y : Operand} {n : Nat} (ho : q.op = .binOp .shl t x y u) (hx : ev P tm x = some (VJ 1)) (hy : ev P tm y = some (VJ (n : Int))) (h1 : n ≤ 20) : step1 P tm H q = some (VJ ((2 ^ n : Nat) : Int), H, H.n) := by
  rw [step1_shl ho hx hy (by omega)]
  have hp : 2 ^ n ≤ 2 ^ 20 := Nat.pow_le_pow_right (by decide) h1
  rw [show IntKind.bits .i64 = 64 from rfl, Nat.min_eq_left (by omega), show ((n : Int)).toNat = n by omega, Int.one_mul]
  have h2 : ((2 ^ n : Nat) : Int) = (2 : Int) ^ n := by simp
  have hp' : 2 ^ n ≤ 1048576 := hp
  rw [← h2]
  generalize 2 ^ n = k at hp'
  rw [wrapI (by omega) (by omega)]
theorem and_one {x i : Nat} : (x >>> i) &&& 1 = if x.testBit i = true then 1 else 0 := by
  have h := Nat.and_one_is_mod (x >>> i)
  rw [Nat.testBit, Nat.and_comm 1, h]
  have : x >>> i % 2 = 0 ∨ x >>> i % 2 = 1 := by omega
  rcases this with e | e <;> rw [e] <;> rfl
theorem drop_atk {a : List Int} {i : Nat} (h : i < a.length) : a.drop i = a[i]! :: a.drop (i + 1) := by
  rw [List.drop_eq_getElem_cons h, getElem!_pos a i h]
set_option maxRecDepth 100000 in
theorem less_spec {B : Nat} {H : Heap} {av bv : Value} {a b : List Int} (hB : B ≤ H.n) (ha : Ints H av a) (hb : Ints H bv b) (hl : a.length = b.length) (hn : a.length < 1000000) :
    CallB Try.prog B 61 [av, bv] H (fun v H' => v = .bool (lessB a b) ∧ Keep H H') := by
  refine CV.enter callees false rfl Try.func61 rfl (by kernel_rfl) (Nat.le_of_ble_eq_true rfl) hB ?_
  repeat' first
    | refine CO.cons rfl ?_
    | refine CO.nil ?_
    | refine CV.seq ?_
    | refine CV.region callees ?_
    | refine CV.block ?_
    | fail
  refine CV.loopc ?_
  refine WCv.rounds callees false (α := Nat) (fun i => [(0, av), (1, bv), (5, VJ i)]) (fun i Hz => i ≤ a.length ∧ lessB (a.drop i) (b.drop i) = lessB a b ∧ Keep H Hz) (fun i => a.length - i) (0) (by repeat' first | exact trivial | refine ⟨rfl, ?_⟩ | refine ⟨slot_int (by (try simp only [Int.toNat_natCast]); omega), ?_⟩) ?_ ?_
  · exact ⟨by omega, rfl, Keep.refl _⟩
  rintro i Hx ⟨hi, hw, kx⟩ hBx
  have hax : Ints Hx av a := Row.keep ha kx
  have hbx : Ints Hx bv b := Row.keep hb kx
  by_cases hi2 : i < a.length
  · rw [drop_atk hi2, drop_atk (show i < b.length by omega)] at hw
    simp only [lessB] at hw
    have hai : a[(i : Int).toNat]! = a[i]! := rfl
    have hbi : b[(i : Int).toNat]! = b[i]! := rfl
    by_cases e : a[i]! = b[i]!
    · rw [if_pos e] at hw
      repeat' first
        | refine CO.cons rfl ?_
        | refine CO.nil ?_
        | refine CV.seq ?_
        | refine CV.region callees ?_
        | refine CV.cond ?_
        | refine CV.block ?_
        | refine CV.skip ?_
        | refine CV.draw callees (by decide +kernel) ?_
        | refine CH.cons rfl ?_
        | refine CH.nil ?_
        | refine CO.consG rfl ?_
        | refine ⟨_, ints_len (by assumption), ?_⟩
        | refine ⟨_, ints_addr (by assumption) (by omega) (by omega), ?_⟩
        | refine ⟨_, ints_load (by assumption) (by omega) (by omega), ?_⟩
        | refine ⟨(⟨by omega, by omega⟩ : inI64 _), ?_⟩
        | (refine ⟨fun _ => ?_, fun _ => ?_⟩ <;> first | (exfalso; omega) | skip)
        | fail
      refine ⟨(i + 1), (by repeat' first | exact trivial | refine ⟨rfl, ?_⟩ | refine ⟨slot_int (by (try simp only [Int.toNat_natCast]); omega), ?_⟩), (by (try dsimp only); omega), ?_⟩
      exact ⟨by omega, hw, kx⟩
    · rw [if_neg e] at hw
      rw [← hw]
      by_cases c : a[i]! < b[i]!
      · rw [decide_eq_true c]
        repeat' first
          | refine CO.cons rfl ?_
          | refine CO.nil ?_
          | refine CV.seq ?_
          | refine CV.region callees ?_
          | refine CV.cond ?_
          | refine CV.block ?_
          | refine CV.skip ?_
          | refine CV.ret ?_
          | refine CV.draw callees (by decide +kernel) ?_
          | refine CH.cons rfl ?_
          | refine CH.nil ?_
          | refine CO.consG rfl ?_
          | refine ⟨_, ints_len (by assumption), ?_⟩
          | refine ⟨_, ints_addr (by assumption) (by omega) (by omega), ?_⟩
          | refine ⟨_, ints_load (by assumption) (by omega) (by omega), ?_⟩
          | (refine ⟨fun _ => ?_, fun _ => ?_⟩ <;> first | (exfalso; omega) | skip)
          | fail
        exact ⟨rfl, rfl, kx⟩
      · rw [decide_eq_false c]
        repeat' first
          | refine CO.cons rfl ?_
          | refine CO.nil ?_
          | refine CV.seq ?_
          | refine CV.region callees ?_
          | refine CV.cond ?_
          | refine CV.block ?_
          | refine CV.skip ?_
          | refine CV.ret ?_
          | refine CV.draw callees (by decide +kernel) ?_
          | refine CH.cons rfl ?_
          | refine CH.nil ?_
          | refine CO.consG rfl ?_
          | refine ⟨_, ints_len (by assumption), ?_⟩
          | refine ⟨_, ints_addr (by assumption) (by omega) (by omega), ?_⟩
          | refine ⟨_, ints_load (by assumption) (by omega) (by omega), ?_⟩
          | (refine ⟨fun _ => ?_, fun _ => ?_⟩ <;> first | (exfalso; omega) | skip)
          | fail
        exact ⟨rfl, rfl, kx⟩
  obtain rfl : i = a.length := by omega
  rw [List.drop_length] at hw
  rw [← hw]
  repeat' first
    | refine CO.cons rfl ?_
    | refine CO.nil ?_
    | refine CV.seq ?_
    | refine CV.region callees ?_
    | refine CV.cond ?_
    | refine CV.exit ?_
    | refine CV.ret ?_
    | refine CO.consG rfl ?_
    | refine ⟨_, ints_len (by assumption), ?_⟩
    | (refine ⟨fun _ => ?_, fun _ => ?_⟩ <;> first | (exfalso; omega) | skip)
    | fail
  exact ⟨rfl, rfl, kx⟩
set_option maxRecDepth 100000 in
theorem eqInts_spec {B : Nat} {H : Heap} {av bv : Value} {a b : List Int} (hB : B ≤ H.n) (ha : Ints H av a) (hb : Ints H bv b) (hn : a.length < 1000000) :
    CallB Try.prog B 42 [av, bv] H (fun v H' => v = .bool (decide (a = b)) ∧ Keep H H') := by
  refine CV.enter callees false rfl Try.func42 rfl (by kernel_rfl) (Nat.le_of_ble_eq_true rfl) hB ?_
  by_cases hl : a.length = b.length
  · repeat' first
      | refine CO.cons rfl ?_
      | refine CO.nil ?_
      | refine CV.seq ?_
      | refine CV.region callees ?_
      | refine CV.cond ?_
      | refine CV.block ?_
      | refine CV.skip ?_
      | refine ⟨_, ints_len (by assumption), ?_⟩
      | (refine ⟨fun _ => ?_, fun _ => ?_⟩ <;> first | (exfalso; omega) | skip)
      | fail
    refine CV.loopc ?_
    refine WCv.rounds callees false (α := Nat) (fun i => [(0, av), (1, bv), (5, VJ i)]) (fun i Hz => i ≤ a.length ∧ (∀ j, j < i → a[j]! = b[j]!) ∧ Keep H Hz) (fun i => a.length - i) (0) (by repeat' first | exact trivial | refine ⟨rfl, ?_⟩ | refine ⟨slot_int (by (try simp only [Int.toNat_natCast]); omega), ?_⟩) ?_ ?_
    · exact ⟨by omega, fun j hj => by omega, Keep.refl _⟩
    rintro i Hx ⟨hi, hw, kx⟩ hBx
    have hax : Ints Hx av a := Row.keep ha kx
    have hbx : Ints Hx bv b := Row.keep hb kx
    by_cases hi2 : i < a.length
    · have hai : a[(i : Int).toNat]! = a[i]! := rfl
      have hbi : b[(i : Int).toNat]! = b[i]! := rfl
      by_cases e : a[i]! = b[i]!
      · repeat' first
          | refine CO.cons rfl ?_
          | refine CO.nil ?_
          | refine CV.seq ?_
          | refine CV.region callees ?_
          | refine CV.cond ?_
          | refine CV.block ?_
          | refine CV.skip ?_
          | refine CV.draw callees (by decide +kernel) ?_
          | refine CH.cons rfl ?_
          | refine CH.nil ?_
          | refine ⟨_, ints_len (by assumption), ?_⟩
          | refine ⟨_, ints_addr (by assumption) (by omega) (by omega), ?_⟩
          | refine ⟨_, ints_load (by assumption) (by omega) (by omega), ?_⟩
          | refine ⟨(⟨by omega, by omega⟩ : inI64 _), ?_⟩
          | (refine ⟨fun _ => ?_, fun _ => ?_⟩ <;> first | (exfalso; omega) | skip)
          | fail
        refine ⟨(i + 1), (by repeat' first | exact trivial | refine ⟨rfl, ?_⟩ | refine ⟨slot_int (by (try simp only [Int.toNat_natCast]); omega), ?_⟩), (by (try dsimp only); omega), ?_⟩
        refine ⟨by omega, fun j hj => ?_, kx⟩
        by_cases c : j = i
        · rw [c]; exact e
        · exact hw j (by omega)
      · have hne : ¬ a = b := fun h => e (by rw [h])
        rw [decide_eq_false hne]
        repeat' first
          | refine CO.cons rfl ?_
          | refine CO.nil ?_
          | refine CV.seq ?_
          | refine CV.region callees ?_
          | refine CV.cond ?_
          | refine CV.block ?_
          | refine CV.skip ?_
          | refine CV.ret ?_
          | refine CV.draw callees (by decide +kernel) ?_
          | refine CH.cons rfl ?_
          | refine CH.nil ?_
          | refine ⟨_, ints_len (by assumption), ?_⟩
          | refine ⟨_, ints_addr (by assumption) (by omega) (by omega), ?_⟩
          | refine ⟨_, ints_load (by assumption) (by omega) (by omega), ?_⟩
          | (refine ⟨fun _ => ?_, fun _ => ?_⟩ <;> first | (exfalso; omega) | skip)
          | fail
        exact ⟨rfl, rfl, kx⟩
    obtain rfl : i = a.length := by omega
    have heq : a = b := by
      apply List.ext_getElem hl
      intro j h1 h2
      have := hw j h1
      rw [getElem!_pos a j h1, getElem!_pos b j h2] at this
      exact this
    rw [decide_eq_true heq]
    repeat' first
      | refine CO.cons rfl ?_
      | refine CO.nil ?_
      | refine CV.seq ?_
      | refine CV.region callees ?_
      | refine CV.cond ?_
      | refine CV.exit ?_
      | refine CV.ret ?_
      | refine ⟨_, ints_len (by assumption), ?_⟩
      | (refine ⟨fun _ => ?_, fun _ => ?_⟩ <;> first | (exfalso; omega) | skip)
      | fail
    exact ⟨rfl, rfl, kx⟩
  · have hne : ¬ a = b := fun h => hl (by rw [h])
    rw [decide_eq_false hne]
    repeat' first
      | refine CO.cons rfl ?_
      | refine CO.nil ?_
      | refine CV.seq ?_
      | refine CV.region callees ?_
      | refine CV.cond ?_
      | refine CV.ret ?_
      | refine ⟨_, ints_len (by assumption), ?_⟩
      | (refine ⟨fun _ => ?_, fun _ => ?_⟩ <;> first | (exfalso; omega) | skip)
      | fail
    exact ⟨rfl, rfl, Keep.refl _⟩
theorem ver_cases {k : Ke} {w : Int × Int} : verN k w = 1 ∨ verN k w = 2 ∨ verN k w = 3 := by
  unfold verN
  split
  · exact .inl rfl
  · split
    · exact .inr (.inl rfl)
    · exact .inr (.inr rfl)
theorem ver_drop {k : Ke} {E : List Em} {ps : List Po} {fr to : Nat} {x : Int} : x ∈ (verL k E ps (to + 1)).drop fr ↔ ∃ m, fr ≤ m ∧ m ≤ to ∧ verN k (warmM k E ps m) = x := by
  rw [List.mem_iff_getElem]
  constructor
  · rintro ⟨j, hj, rfl⟩
    rw [List.length_drop, verL_len] at hj
    refine ⟨fr + j, by omega, by omega, ?_⟩
    rw [List.getElem_drop]
    simp [verL]
  · rintro ⟨m, h1, h2, rfl⟩
    refine ⟨m - fr, by rw [List.length_drop, verL_len]; omega, ?_⟩
    rw [List.getElem_drop]
    simp only [verL, List.getElem_map, List.getElem_range]
    rw [show fr + (m - fr) = m by omega]
theorem enB_drop {k : Ke} {cs : List Co} {ts : List (Int × Int)} {ps : List Po} {fr to : Nat} {c : List Int} {B0 B1 : List Int} (hf : FOk cs ts) (hc : Asc cs.length 0 c) (h0 : IsBeg 0 (onlyC cs c) (onlyT ts c) B0) (h1 : IsBeg 1 (onlyC cs c) (onlyT ts c) B1) :
    enB k cs ts ps fr to c = (!decide ((2 : Int) ∈ (verL k (emL (onlyC cs c) B0 B1) ps (to + 1)).drop fr) && !decide ((3 : Int) ∈ (verL k (emL (onlyC cs c) B0 B1) ps (to + 1)).drop fr)) := by
  rw [Bool.eq_iff_iff, enB_iff hf hc h0 h1]
  simp only [Bool.and_eq_true, Bool.not_eq_true', decide_eq_false_iff_not, ver_drop]
  constructor
  · intro h
    refine ⟨?_, ?_⟩
    · rintro ⟨m, a, b, e⟩
      rw [h m a b] at e; cases e
    · rintro ⟨m, a, b, e⟩
      rw [h m a b] at e; cases e
  · rintro ⟨h2, h3⟩ m a b
    rcases ver_cases (k := k) (w := warmM k (emL (onlyC cs c) B0 B1) ps m) with e | e | e
    · exact e
    · exact absurd ⟨m, a, b, e⟩ h2
    · exact absurd ⟨m, a, b, e⟩ h3
end Go.Proofs.Ytglkphjjinmgmaa

