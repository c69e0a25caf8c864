
/- Meetings: a map keyed by guests and combinations. -/
import Derived.Test.Ytjjmnfgnlcbfhaaf2o
set_option linter.unusedVariables false
set_option linter.unusedSimpArgs false
namespace Go.Proofs.Ytjjmnfgnlcbfhaa
open Go.AI
theorem eq_ints {t : TypeId} {k : IntKind} {a b : Int} {d : Nat} (ht : Try.prog.underlying t = some (.int k)) : pureRun Try.prog (Op.equalIn (d + 1) t (.int .i64 a) (.int .i64 b)) = some (a == b) := by
  rw [Op.equalIn, pureRun_bind, pureRun_underlying ht]
  simp
  rfl
theorem unK : Try.prog.underlying 171 = some (.array 2 3) := by kernel_rfl
theorem partK0 {a b : Int} : pureRun Try.prog (part 3 #[Value.int IntKind.i64 a, Value.int IntKind.i64 b] 0) = some (.int .i64 a) := by kernel_rfl
theorem partK1 {a b : Int} : pureRun Try.prog (part 3 #[Value.int IntKind.i64 a, Value.int IntKind.i64 b] 1) = some (.int .i64 b) := by kernel_rfl
theorem sizeK : pureRun Try.prog (sizeOf 3) = some 1 := by kernel_rfl
set_option maxRecDepth 100000 in
theorem eqK {a b c d : Int} : pureRun Try.prog (Op.equal 171 (.agg #[.int .i64 a, .int .i64 b]) (.agg #[.int .i64 c, .int .i64 d])) = some ((a == c) && (b == d)) := by
  unfold Op.equal
  rw [show Op.maxDepth = 9998 + 1 + 1 from rfl, Op.equalIn, pureRun_bind, pureRun_underlying unK]
  simp only [Option.bind_some]
  rw [pureRun_bind, sizeK, Option.bind_some, pureRun_bind, Std.Legacy.Range.forIn_eq_forIn_range', show List.range' ([:2] : Std.Legacy.Range).start ([:2] : Std.Legacy.Range).size ([:2] : Std.Legacy.Range).step = [0, 1] from rfl]
  simp only [List.forIn_cons, List.forIn_nil]
  simp only [pureRun_bind]
  simp only [show (0 * 1 : Nat) = 0 from rfl, show (1 * 1 : Nat) = 1 from rfl, partK0, Option.bind_some, eq_ints un3]
  cases (a == c) with
  | false => rfl
  | true =>
    have hp : ∀ {α : Type} (x : α), pureRun Try.prog (pure x) = some x := fun _ => rfl
    simp only [Bool.not_true, Bool.false_eq_true, if_false, hp, Option.bind_some, pureRun_bind, partK1, eq_ints un3, Bool.true_and]
    cases (b == d) <;> rfl
abbrev Kv (k : Int × Int) : Value := .agg #[VI k.1, VI k.2]
theorem keysK {a b : Int × Int} : pureRun Try.prog (Op.equal 171 (Kv a) (Kv b)) = some (decide (a = b)) := by
  refine eqK.trans (congrArg some ?_)
  cases a; cases b
  simp [Bool.decide_and]
  rfl
theorem keysK_bits {p : Int × Int} : Instr.sameBits 10000 (Kv p) (Kv p) = true := by
  rw [show (10000 : Nat) = 9999 + 1 from rfl]
  simp [Instr.sameBits]
theorem keysK_hash {p : Int × Int} (x : Bool) : (pureRun Try.prog (Instr.checkKey x 10000 171 (Kv p))).isSome = true := by
  cases x <;> kernel_rfl
theorem zero3 : (Try.prog.info? 3).bind (·.zero) = some (VI 0) := by kernel_rfl
theorem unMe : Try.prog.underlying 149 = some (.map 171 3) := by kernel_rfl
/-- The entries: how often, by keys. -/
abbrev entM (W : Int × Int → Int) (M : List (Int × Int)) : List (Value × Value) := M.map fun p => (Kv p, VI (W p))
theorem findM {W : Int × Int → Int} {k : Int × Int} : ∀ (M : List (Int × Int)) (i : Nat),
    (k ∈ M → M.idxOf k < M.length ∧ findQ Try.prog 171 (Kv k) (entM W M) i = some (some (i + M.idxOf k, VI (W k)))) ∧ (k ∉ M → findQ Try.prog 171 (Kv k) (entM W M) i = some none)
  | [], i => ⟨fun h => (by cases h), fun _ => rfl⟩
  | x :: ks, i => by
    have ih := findM (W := W) (k := k) ks (i + 1)
    have he := keysK (a := k) (b := x)
    have hf : findQ Try.prog 171 (Kv k) (entM W (x :: ks)) i = if k = x then some (some (i, VI (W x))) else findQ Try.prog 171 (Kv k) (entM W ks) (i + 1) := by
      simp only [entM, List.map_cons, findQ, he]
      by_cases hkx : k = x
      · rw [if_pos hkx]; simp only [decide_eq_true hkx]
      · rw [if_neg hkx]; simp only [decide_eq_false hkx]
    refine ⟨fun hm => ?_, fun hm => ?_⟩
    · rw [hf]
      by_cases hkx : k = x
      · subst hkx; rw [if_pos rfl]; exact ⟨by simp, by simp⟩
      · rw [if_neg hkx]
        obtain ⟨h1, h2⟩ := ih.1 (by simpa [hkx] using hm)
        have hne : ¬ x = k := fun h => hkx h.symm
        refine ⟨by rw [List.idxOf_cons, beq_eq_false_iff_ne.2 hne, cond_false, List.length_cons]; omega, ?_⟩
        rw [h2, List.idxOf_cons, beq_eq_false_iff_ne.2 hne, cond_false, show i + 1 + List.idxOf k ks = i + (List.idxOf k ks + 1) by omega]
    · rw [hf, if_neg (fun e => hm (by simp [e]))]
      exact ih.2 (fun e => hm (by simp [e]))
theorem findA_K (W : Int × Int → Int) (k : Int × Int) (M : List (Int × Int)) : findA (.array 2 3) (Kv k) (entM W M) 0 = none ∨ (M = [] ∧ findA (.array 2 3) (Kv k) (entM W M) 0 = some none) := by
  cases M with
  | nil => exact .inr ⟨rfl, rfl⟩
  | cons x M => exact .inl rfl
/-- How often, whatever is in the map: none if it is not. -/
def cntM (W : Int × Int → Int) (M : List (Int × Int)) (k : Int × Int) : Int := if k ∈ M then W k else 0
theorem lookM {H : Heap} {r : Nat} {W : Int × Int → Int} {M : List (Int × Int)} {k : Int × Int} (hg : H.get r = some (.map (entM W M))) :
    alookup Try.prog H 149 (.map (some r)) (Kv k) false = some (VI (cntM W M k)) := by
  obtain ⟨h1, h2⟩ := findM (W := W) (k := k) M 0
  simp only [alookup, unMe, amap, hg, unK, zero3]
  rw [if_pos ⟨rfl, rfl, rfl, keysK_hash _⟩]
  unfold cntM
  by_cases hm : k ∈ M
  · rw [if_pos hm]
    rcases findA_K W k M with hA | ⟨rfl, hA⟩
    · rw [hA, (h1 hm).2]; rfl
    · cases hm
  · rw [if_neg hm]
    rcases findA_K W k M with hA | ⟨rfl, hA⟩
    · rw [hA, h2 hm]; rfl
    · rw [hA]; rfl
def putM (M : List (Int × Int)) (k : Int × Int) : List (Int × Int) := if k ∈ M then M else M ++ [k]
def setW (W : Int × Int → Int) (k : Int × Int) (x : Int) : Int × Int → Int := fun p => if p = k then x else W p
theorem cntM_put {W : Int × Int → Int} {M : List (Int × Int)} {k p : Int × Int} {x : Int} : cntM (setW W k x) (putM M k) p = if p = k then x else cntM W M p := by
  unfold cntM putM setW
  by_cases hm : k ∈ M
  · rw [if_pos hm]
    by_cases hp : p = k
    · subst hp; rw [if_pos hm, if_pos rfl, if_pos rfl]
    · rw [if_neg hp, if_neg hp]
  · rw [if_neg hm]
    by_cases hp : p = k
    · subst hp; rw [if_pos (by simp), if_pos rfl, if_pos rfl]
    · rw [if_neg hp, if_neg hp]
      by_cases h : p ∈ M
      · rw [if_pos (by simp [h]), if_pos h]
      · rw [if_neg (by simp [h, hp]), if_neg h]
theorem putM_mem {M : List (Int × Int)} {k : Int × Int} : k ∈ putM M k := by
  unfold putM
  by_cases hm : k ∈ M
  · rw [if_pos hm]; exact hm
  · rw [if_neg hm]; simp
theorem putM_nodup {M : List (Int × Int)} {k : Int × Int} (h : M.Nodup) : (putM M k).Nodup := by
  unfold putM
  by_cases hm : k ∈ M
  · rw [if_pos hm]; exact h
  · rw [if_neg hm]
    refine List.nodup_append.2 ⟨h, by simp, fun a ha b hb => ?_⟩
    rw [List.mem_singleton] at hb
    subst hb
    rintro rfl
    exact hm ha
/-- Room for a key. -/
theorem entryM {H : Heap} {r : Nat} {W : Int × Int → Int} {M : List (Int × Int)} {k : Int × Int} (hg : H.get r = some (.map (entM W M))) :
    amapEntry Try.prog H 149 (.map (some r)) (Kv k) = some (.tuple #[VI (cntM W M k), VI ((putM M k).idxOf k)], H.set r (.map (entM (setW W k (cntM W M k)) (putM M k))), r) := by
  obtain ⟨h1, h2⟩ := findM (W := W) (k := k) M 0
  simp only [amapEntry, unMe, hg, unK, zero3]
  rw [if_pos ⟨rfl, rfl, rfl, keysK_hash _⟩]
  unfold cntM putM
  by_cases hm : k ∈ M
  · obtain ⟨h3, h4⟩ := h1 hm
    rw [if_pos hm, if_pos hm]
    have hent : (entM W M)[M.idxOf k]? = some (Kv k, VI (W k)) := by
      rw [List.getElem?_map, List.getElem?_eq_getElem h3, List.getElem_idxOf]; rfl
    have hb : bitsAt (entM W M) (0 + M.idxOf k) (Kv k) = true := by
      rw [Nat.zero_add]
      simp only [bitsAt, hent]
      exact keysK_bits
    have hset : (entM W M).set (0 + M.idxOf k) (Kv k, VI (W k)) = entM (setW W k (W k)) M := by
      obtain ⟨hj1, hj2⟩ := List.getElem?_eq_some_iff.1 hent
      have e : setW W k (W k) = W := by funext p; unfold setW; split <;> simp_all
      rw [e, Nat.zero_add, ← hj2]; exact List.set_getElem_self hj1
    rcases findA_K W k M with hA | ⟨rfl, hA⟩
    · rw [hA]
      simp only [h4]
      rw [if_pos ⟨hb, rfl⟩, hset, Nat.zero_add]
    · cases hm
  · rw [if_neg hm, if_neg hm]
    have e : entM W M ++ [(Kv k, VI 0)] = entM (setW W k 0) (M ++ [k]) := by
      unfold entM
      rw [List.map_append]
      congr 1
      · apply List.map_congr_left
        intro p hp
        unfold setW
        rw [if_neg (fun e : p = k => hm (by rw [← e]; exact hp))]
      · simp [setW]
    have hidx : (M ++ [k]).idxOf k = M.length := by
      rw [List.idxOf_append, if_neg hm]; simp
    have hlen : (entM W M).length = M.length := List.length_map ..
    rcases findA_K W k M with hA | ⟨rfl, hA⟩
    · rw [hA]
      simp only [h2 hm]
      rw [e, hidx, hlen]
    · rw [hA]
      simp only []
      rw [e, hidx, hlen]
theorem storeM {H : Heap} {r : Nat} {W : Int × Int → Int} {M : List (Int × Int)} {k : Int × Int} {x : Int} (hg : H.get r = some (.map (entM W M))) (hm : k ∈ M) (hnd : M.Nodup) :
    aentryStore H (.map (some r)) (VI (M.idxOf k)) (VI x) = some (H.set r (.map (entM (setW W k x) M)), r) := by
  have hlen : (entM W M).length = M.length := List.length_map ..
  have hi : M.idxOf k < M.length := List.idxOf_lt_length_of_mem hm
  simp only [aentryStore, hg]
  rw [if_pos ⟨by omega, by rw [hlen]; omega, rfl⟩, Int.toNat_natCast]
  have hent : (entM W M)[M.idxOf k]? = some (Kv k, VI (W k)) := by
    rw [List.getElem?_map, List.getElem?_eq_getElem hi, List.getElem_idxOf]; rfl
  simp only [hent]
  have : (entM W M).set (M.idxOf k) (Kv k, VI x) = entM (setW W k x) M := by
    apply List.ext_getElem (by simp)
    intro j h1 h2
    have hj : j < M.length := by simpa using h1
    rw [List.getElem_set]
    by_cases e : M.idxOf k = j
    · subst e
      rw [if_pos rfl]
      simp only [entM, List.getElem_map, List.getElem_idxOf, setW, if_pos]
    · rw [if_neg e]
      have hne : M[j] ≠ k := fun h => e (by rw [← h]; exact hnd.idxOf_getElem j hj)
      simp only [entM, List.getElem_map, setW, if_neg hne]
  rw [this]
theorem setW_twice {W : Int × Int → Int} {k : Int × Int} {x y : Int} : setW (setW W k x) k y = setW W k y := by
  funext p; unfold setW; split <;> simp_all
/-- How often guests met combinations. -/
def Meet (H : Heap) (r : Nat) (f : Int → Int → Int) : Prop := ∃ W M, H.get r = some (.map (entM W M)) ∧ M.Nodup ∧ ∀ g c, cntM W M (g, c) = f g c
theorem buK {a b : Int} : abuild Try.prog 171 [(0, VI a), (1, VI b)] = some (Kv (a, b)) := by kernel_rfl
set_option maxHeartbeats 16000000 in
set_option maxRecDepth 100000 in
theorem again_spec [Orc] {B r : Nat} {H : Heap} {v : Value} {gl : List Int} {c : Int} {f : Int → Int → Int} (hB : B ≤ H.n) (hr : r < H.n) (hm : Meet H r f) (hg : Ints H v gl) (hn : gl.length < 1000000) :
    CallB Try.prog B 106 [.map (some r), v, VI c] H (fun q H' => Own 3 H' q ((gl.filter fun g => decide (0 < f g c)).map VI) H.n ∧ Keep H H') := by
  obtain ⟨W, M, hM, _, hf⟩ := hm
  refine CV.enter callees false (Orc.hv rfl rfl) Try.func106 rfl (by kernel_rfl) (Nat.le_of_ble_eq_true rfl) hB ?_ (Orc.hw rfl rfl)
  repeat' first
    | refine CO.cons rfl ?_
    | refine CO.nil ?_
    | refine CV.seq ?_
    | refine CV.region callees ?_
    | refine CV.block ?_
    | refine ⟨_, ints_len (by assumption), ?_⟩
    | fail
  refine CV.loopc ?_
  refine WCv.rounds callees false (α := Nat × Value) (fun (i, q) => [(0, .map (some r)), (2, VI c), (7, q), (10, v), (11, VI gl.length), (12, VI i)]) (fun (i, q) Hz => i ≤ gl.length ∧ Own 3 Hz q (((gl.take i).filter fun g => decide (0 < f g c)).map VI) H.n ∧ Keep H Hz) (fun (i, q) => gl.length - i) (0, nilS) (by repeat' first | exact trivial | refine ⟨rfl, ?_⟩ | refine ⟨slot_int (by (try simp only [Int.toNat_natCast]); omega), ?_⟩) ?_ ?_
  · exact ⟨by omega, .inl ⟨rfl, by simp⟩, Keep.refl _⟩
  rintro ⟨i, q⟩ Hx ⟨hi, hq, kx⟩ hBx
  have hgx : Ints Hx v gl := Row.keep hg kx
  have lx := kx.1
  have hMx := (kx.2 r hr).trans hM
  by_cases hi2 : i < gl.length
  · have hsn : (gl.take (i + 1)).filter (fun g => decide (0 < f g c)) = (gl.take i).filter (fun g => decide (0 < f g c)) ++ (if 0 < f gl[i]! c then [gl[i]!] else []) := by
      rw [tk_at hi2, List.filter_append]
      congr 1
      by_cases h : 0 < f gl[i]! c
      · rw [if_pos h, List.filter_cons_of_pos (by rw [decide_eq_true_eq]; exact h), List.filter_nil]
      · rw [if_neg h, List.filter_cons_of_neg (by rw [decide_eq_true_eq]; exact h), List.filter_nil]
    have hfl : ((gl.take i).filter fun g => decide (0 < f g c)).length ≤ i := Nat.le_trans (List.length_filter_le _ _) (by rw [List.length_take]; omega)
    have hlk : alookup Try.prog Hx 149 (.map (some r)) (Kv (gl[(i : Int).toNat]!, c)) false = some (VI (f gl[i]! c)) := by
      rw [lookM hMx]; exact congrArg _ (congrArg _ (hf gl[i]! c))
    by_cases hp : 0 < f gl[i]! c
    · rw [if_pos hp] at hsn
      repeat' first
        | refine CO.cons rfl ?_
        | refine CO.nil ?_
        | refine CV.seq ?_
        | refine CV.region callees ?_
        | refine CV.cond ?_
        | refine CV.block ?_
        | refine CV.skip ?_
        | refine ⟨_, ints_addr (by assumption) (by omega) (by omega), ?_⟩
        | refine ⟨_, ints_load (by assumption) (by omega) (by omega), ?_⟩
        | (refine ⟨_, buK, ?_⟩)
        | (refine ⟨_, hlk, ?_⟩)
        | (refine ⟨_, _, build_one un22 one3 rfl, ?_⟩)
        | (refine ⟨fun _ => ?_, fun _ => ?_⟩ <;> first | (exfalso; omega) | skip)
        | fail
      refine push_ask hq (by omega) hB (by omega) ?_
      intro q6 H6 hq6 kb6 hf6
      have hqb : ∀ c, blkOf q = some c → H.n ≤ c := fun c hc => (hq.lt hc).1
      repeat' first
        | refine CO.cons rfl ?_
        | refine CO.nil ?_
        | refine CV.region callees ?_
        | refine ⟨(⟨by omega, by omega⟩ : inI64 _), ?_⟩
        | fail
      refine ⟨(i + 1, q6), (by repeat' first | exact trivial | refine ⟨rfl, ?_⟩ | refine ⟨slot_int (by (try simp only [Int.toNat_natCast]); omega), ?_⟩), (by (try dsimp only); omega), ?_⟩
      exact ⟨by omega, by rw [hsn]; exact hq6, kb6.keep kx hqb⟩
    · rw [if_neg hp, List.append_nil] at hsn
      repeat' first
        | refine CO.cons rfl ?_
        | refine CO.nil ?_
        | refine CV.seq ?_
        | refine CV.region callees ?_
        | refine CV.cond ?_
        | refine CV.block ?_
        | refine CV.skip ?_
        | refine ⟨_, ints_addr (by assumption) (by omega) (by omega), ?_⟩
        | refine ⟨_, ints_load (by assumption) (by omega) (by omega), ?_⟩
        | refine ⟨(⟨by omega, by omega⟩ : inI64 _), ?_⟩
        | (refine ⟨_, buK, ?_⟩)
        | (refine ⟨_, hlk, ?_⟩)
        | (refine ⟨fun _ => ?_, fun _ => ?_⟩ <;> first | (exfalso; omega) | skip)
        | fail
      refine ⟨(i + 1, q), (by repeat' first | exact trivial | refine ⟨rfl, ?_⟩ | refine ⟨slot_int (by (try simp only [Int.toNat_natCast]); omega), ?_⟩), (by (try dsimp only); omega), ?_⟩
      exact ⟨by omega, by rw [hsn]; exact hq, kx⟩
  obtain rfl : i = gl.length := by omega
  rw [List.take_length] at hq
  repeat' first
    | refine CO.cons rfl ?_
    | refine CO.nil ?_
    | refine CV.seq ?_
    | refine CV.region callees ?_
    | refine CV.cond ?_
    | refine CV.exit ?_
    | refine CV.ret ?_
    | (refine ⟨fun _ => ?_, fun _ => ?_⟩ <;> first | (exfalso; omega) | skip)
    | fail
  exact ⟨by simp only [List.all_cons, List.all_nil, hq.notTuple]; rfl, hq, kx⟩
/-- What is added, for the first of the guests. -/
def addF (f : Int → Int → Int) (gl : List Int) (c t : Int) : Int → Int → Int := fun g d => f g d + if d = c ∧ g ∈ gl then t else 0
set_option maxHeartbeats 16000000 in
set_option maxRecDepth 100000 in
theorem add_spec [Orc] {B r : Nat} {H : Heap} {v : Value} {gl : List Int} {c t : Int} {f : Int → Int → Int} (hB : B ≤ r) (hr : r < H.n) (hm : Meet H r f) (hg : Ints H v gl) (hn : gl.length < 1000000) (hnd : gl.Nodup)
    (hfb : ∀ g d, -1000000 ≤ f g d ∧ f g d ≤ 1000000) (ht : -1 ≤ t ∧ t ≤ 1) :
    CallB Try.prog B 108 [.map (some r), v, VI c, VI t] H (fun _ H' => Meet H' r (addF f gl c t) ∧ KeepX r H H') := by
  have hBn : B ≤ H.n := by omega
  obtain ⟨W0, M0, hM0, hd0, hf0⟩ := hm
  refine CV.enter callees false (Orc.hv rfl rfl) Try.func108 rfl (by kernel_rfl) (Nat.le_of_ble_eq_true rfl) hBn ?_ (Orc.hw rfl rfl)
  repeat' first
    | refine CO.cons rfl ?_
    | refine CO.nil ?_
    | refine CV.seq ?_
    | refine CV.region callees ?_
    | refine CV.block ?_
    | refine ⟨_, ints_len (by assumption), ?_⟩
    | fail
  refine CV.loopc ?_
  refine WCv.rounds callees false (α := Nat × (Int × Int → Int) × List (Int × Int)) (fun (i, W, M) => [(0, .map (some r)), (2, VI c), (3, VI t), (10, v), (11, VI gl.length), (12, VI i)]) (fun (i, W, M) Hz => i ≤ gl.length ∧ Hz.get r = some (.map (entM W M)) ∧ M.Nodup ∧ (∀ g d, cntM W M (g, d) = addF f (gl.take i) c t g d) ∧ KeepX r H Hz ∧ r < Hz.n) (fun (i, W, M) => gl.length - i) (0, W0, M0) (by repeat' first | exact trivial | refine ⟨rfl, ?_⟩ | refine ⟨slot_int (by (try simp only [Int.toNat_natCast]); omega), ?_⟩) ?_ ?_
  · exact ⟨by omega, hM0, hd0, fun g d => by rw [hf0]; simp [addF], KeepX.refl _ _, hr⟩
  rintro ⟨i, W, M⟩ Hx ⟨hi, hM, hd, hf, kx, lx⟩ hBx
  have hgx : Ints Hx v gl := Row.keepM hg kx hM0
  by_cases hi2 : i < gl.length
  · have hnot : gl[i]! ∉ gl.take i := by
      rw [getElem!_pos gl i hi2]
      intro h
      obtain ⟨j, hj, he⟩ := List.mem_take_iff_getElem.1 h
      exact List.pairwise_iff_getElem.1 hnd j i (by omega) hi2 (by omega) he
    have hfi : cntM W M (gl[i]!, c) = f gl[i]! c := by rw [hf, addF, if_neg (fun h => hnot h.2), Int.add_zero]
    have hb := hfb gl[i]! c
    have hlk : alookup Try.prog Hx 149 (.map (some r)) (Kv (gl[(i : Int).toNat]!, c)) false = some (VI (f gl[i]! c)) := by
      rw [lookM hM]; exact congrArg _ (congrArg _ hfi)
    have hen := entryM (k := (gl[i]!, c)) hM
    rw [hfi] at hen
    repeat' first
      | refine CO.cons rfl ?_
      | refine CO.nil ?_
      | refine CV.seq ?_
      | refine CV.region callees ?_
      | refine CV.cond ?_
      | refine CV.block ?_
      | refine CV.skip ?_
      | refine CR.cons ?_
      | refine ⟨_, ints_addr (by assumption) (by omega) (by omega), ?_⟩
      | refine ⟨_, ints_load (by assumption) (by omega) (by omega), ?_⟩
      | refine ⟨(⟨by omega, by omega⟩ : inI64 _), ?_⟩
      | refine CV.wideR callees (by decide +kernel) [(0, []), (1, []), (2, []), (3, []), (4, []), (5, []), (6, []), (7, [6, 4]), (8, []), (9, [])] (by kernel_rfl) ?_
      | (refine ⟨_, buK, ?_⟩)
      | (refine ⟨_, hlk, ?_⟩)
      | (refine ⟨fun _ => ?_, fun _ => ?_⟩ <;> first | (exfalso; omega) | skip)
      | fail
    refine ⟨_, _, _, hen, by omega, hBx, ?_⟩
    generalize hs5 : Heap.set Hx r _ = H5
    have hg5 := set_get hs5
    have n5 := set_n hs5
    have o5 := set_old hs5
    have hst := storeM (x := f gl[i]! c + t) hg5 putM_mem (putM_nodup hd)
    rw [setW_twice] at hst
    have hlk5 : alookup Try.prog H5 149 (.map (some r)) (Kv (gl[(i : Int).toNat]!, c)) false = some (VI (f gl[i]! c)) := by
      rw [lookM hg5]; exact congrArg _ (congrArg _ (cntM_put.trans (if_pos rfl)))
    repeat' first
      | refine CR.cons ?_
      | refine ⟨(⟨by omega, by omega⟩ : inI64 _), ?_⟩
      | (refine ⟨(rfl : _ = Value.int _ _), ?_⟩)
      | (refine ⟨same_int, ?_⟩)
      | (refine ⟨_, hlk5, ?_⟩)
      | fail
    refine ⟨_, _, hst, by omega, by show B ≤ H5.n; omega, ?_⟩
    generalize hs6 : Heap.set H5 r _ = H6
    have hg6 := set_get hs6
    have n6 := set_n hs6
    have o6 := set_old hs6
    repeat' first
      | refine CO.cons rfl ?_
      | refine CO.nil ?_
      | refine CV.region callees ?_
      | refine CR.nil ?_
      | refine ⟨(⟨by omega, by omega⟩ : inI64 _), ?_⟩
      | fail
    refine ⟨(i + 1, setW W (gl[i]!, c) (f gl[i]! c + t), putM M (gl[i]!, c)), (by repeat' first | exact trivial | refine ⟨rfl, ?_⟩ | refine ⟨slot_int (by (try simp only [Int.toNat_natCast]); omega), ?_⟩), (by (try dsimp only); omega), ?_⟩
    refine ⟨by omega, hg6, putM_nodup hd, fun g d => ?_, kx.trans ⟨by omega, fun p _ hp => (o6 p hp).trans (o5 p hp)⟩, by omega⟩
    rw [cntM_put]
    by_cases e : (g, d) = (gl[i]!, c)
    · rw [if_pos e]
      cases e
      rw [addF, if_pos ⟨rfl, by rw [tk_at hi2]; simp⟩]
    · rw [if_neg e, hf, addF, addF]
      congr 1
      by_cases h1 : d = c
      · have h2 : g ≠ gl[i]! := fun h => e (by rw [h, h1])
        by_cases h3 : g ∈ gl.take i
        · rw [if_pos ⟨h1, h3⟩, if_pos ⟨h1, by rw [tk_at hi2]; exact List.mem_append_left _ h3⟩]
        · rw [if_neg (fun h => h3 h.2), if_neg (fun h => by
            rw [tk_at hi2, List.mem_append, List.mem_singleton] at h
            exact h.2.elim h3 h2)]
      · rw [if_neg (fun h => h1 h.1), if_neg (fun h => h1 h.1)]
  obtain rfl : i = gl.length := by omega
  rw [List.take_length] at hf
  repeat' first
    | refine CO.cons rfl ?_
    | refine CO.nil ?_
    | refine CV.seq ?_
    | refine CV.region callees ?_
    | refine CV.cond ?_
    | refine CV.exit ?_
    | (refine ⟨fun _ => ?_, fun _ => ?_⟩ <;> first | (exfalso; omega) | skip)
    | fail
  exact ⟨rfl, ⟨W, M, hM, hd, hf⟩, kx⟩
end Go.Proofs.Ytjjmnfgnlcbfhaa
