/- Levels, and the characters of a chart, by the program. -/
import Derived.Test.YthcchjmjblegdaaDoorI2
namespace Go.AI
theorem anew_keep (H : Heap) (cs : List Value) (e : TypeId) (k : Nat) : Keep H (anew H cs e k) := Keep.new _ _
/-- The bytes of a list of numbers. -/
def strOf (l : List Int) : ByteArray := ⟨(l.map fun x => UInt8.ofNat x.toNat).toArray⟩
abbrev V8 (n : Int) : Value := .int .u8 n
theorem bytesOf_list : ∀ (l : List Int) (acc : ByteArray), bytesOfCells (l.map V8) acc = some ⟨acc.data ++ (l.map fun x => UInt8.ofNat x.toNat).toArray⟩
  | [], acc => by simp [bytesOfCells]
  | x :: l, acc => by
    simp only [List.map_cons, bytesOfCells]
    rw [bytesOf_list l]
    congr 2
    simp [ByteArray.push]
theorem conv_str {P : Program} {src dst e : TypeId} (hs : P.underlying src = some (.slice e)) (hd : P.underlying dst = some .string) (h8 : isU8 P e = true) {H : Heap} {v : Value} {l : List Int} {B : Nat} (h : Own e H v (l.map V8) B) : aconvert P H src dst v = some (.string (strOf l)) := by
  rcases h with ⟨rfl, h0⟩ | ⟨b, rfl, h2, h3, h4⟩
  · have : l = [] := by simpa using h0
    subst this
    simp only [aconvert, hs, hd, h8, if_true]
    rfl
  · simp only [aconvert, hs, hd, h8, if_true, h4]
    rw [if_pos (by simp), List.drop_zero, List.take_of_length_le (by simp), bytesOf_list]
    simp [strOf]
end Go.AI
namespace Go.Proofs.YthcchjmjblegdaaDoor
open Go.AI
theorem un9 : Tryd.prog.underlying 9 = some .string := by kernel_rfl
theorem un93 : Tryd.prog.underlying 93 = some (.slice 5) := by kernel_rfl
theorem one5 : oneBB Tryd.prog 5 = some (.int .u8 0, 1) := by kernel_rfl
theorem sz5 : sizeB Tryd.prog 5 = some 1 := by kernel_rfl
theorem ag5 : isAggB Tryd.prog 5 = some false := by kernel_rfl
theorem u8_5 : isU8 Tryd.prog 5 = true := by kernel_rfl
theorem un122 : Tryd.prog.underlying 122 = some (.array 3 121) := by kernel_rfl
theorem un121 : Tryd.prog.underlying 121 = some (.array 2 5) := by kernel_rfl
theorem sz121 : sizeB Tryd.prog 121 = some 2 := by kernel_rfl
set_option maxHeartbeats 1000000 in
set_option maxRecDepth 100000 in
theorem levels_spec {B : Nat} {v : Value} {H : Heap} {xs : List Int} (hB : B ≤ H.n) (hv : Ints H v xs) :
    CallB Tryd.prog B 49 [v] H (fun r H' => (∃ u, r = .tuple #[u, .int .i64 (check xs)] ∧ Ints H' u (if check xs = 0 then levs xs (bk xs) else [])) ∧ Keep H H') := by
  refine CV.enter callees false rfl Tryd.func49 rfl ok49 (Nat.le_of_ble_eq_true rfl) hB ?_
  repeat' first
    | refine CO.cons rfl ?_
    | refine CO.nil ?_
    | refine CV.seq ?_
    | refine CV.region callees ?_
    | refine CV.cond ?_
    | refine CV.block ?_
    | refine CV.skip ?_
    | refine CV.exit ?_
    | refine CV.ret ?_
    | refine CV.scope ?_
    | refine CV.draw callees rfl ?_
    | refine CH.cons rfl ?_
    | refine CH.nil ?_
    | refine CO.consG rfl ?_
    | refine CH.consG rfl ?_
    | refine CG.cons rfl ?_
    | refine CG.nil ?_
    | refine CG.consG rfl ?_
    | refine ⟨(rfl : plain _ = true), ?_⟩
    | refine ⟨(rfl : nilOk _ = some _), ?_⟩
    | refine ⟨_, ints_len (by assumption), ?_⟩
    | refine ⟨_, ints_addr (by assumption) (by omega) (by omega), ?_⟩
    | refine ⟨_, ints_load (by assumption) (by omega) (by omega), ?_⟩
    | refine ⟨(⟨by omega, by omega⟩ : inI64 _), ?_⟩
    | refine ⟨_, fun tm ha => step1_max rfl (ev_tmp ha rfl) (ev_tmp ha rfl), ?_⟩
    | refine ⟨_, fun tm ha => step1_min rfl (ev_tmp ha rfl) (ev_tmp ha rfl), ?_⟩
    | (refine ⟨fun _ => ?_, fun _ => ?_⟩ <;> first | (exfalso; omega) | skip)
    | fail
  refine (check_spec hB hv).mono ?_
  rintro r H1 ⟨rfl, rfl⟩
  repeat' first
    | refine CO.cons rfl ?_
    | refine CO.nil ?_
    | refine CV.seq ?_
    | refine CV.region callees ?_
    | refine CV.cond ?_
    | refine CV.block ?_
    | refine CV.skip ?_
    | refine CV.exit ?_
    | refine CV.ret ?_
    | refine CV.scope ?_
    | refine CV.draw callees rfl ?_
    | refine CH.cons rfl ?_
    | refine CH.nil ?_
    | refine CO.consG rfl ?_
    | refine CH.consG rfl ?_
    | refine CG.cons rfl ?_
    | refine CG.nil ?_
    | refine CG.consG rfl ?_
    | refine ⟨(rfl : plain _ = true), ?_⟩
    | refine ⟨(rfl : nilOk _ = some _), ?_⟩
    | refine ⟨_, ints_len (by assumption), ?_⟩
    | refine ⟨_, ints_addr (by assumption) (by omega) (by omega), ?_⟩
    | refine ⟨_, ints_load (by assumption) (by omega) (by omega), ?_⟩
    | refine ⟨(⟨by omega, by omega⟩ : inI64 _), ?_⟩
    | refine ⟨_, fun tm ha => step1_max rfl (ev_tmp ha rfl) (ev_tmp ha rfl), ?_⟩
    | refine ⟨_, fun tm ha => step1_min rfl (ev_tmp ha rfl) (ev_tmp ha rfl), ?_⟩
    | (refine ⟨fun _ => ?_, fun _ => ?_⟩ <;> first | (exfalso; omega) | skip)
    | fail
  · exact ⟨rfl, ⟨_, rfl, .inl ⟨rfl, by rw [if_neg (by assumption)]; rfl⟩⟩, Keep.refl _⟩
  have hc : check xs = 0 := Classical.not_not.1 (by assumption)
  have hk9 := bk_le9 hc
  refine (beams_spec hB hv hc).mono ?_
  rintro l H2 ⟨hl, k2⟩
  have hB2 := Nat.le_trans hB k2.1
  have hlen : (bmF xs (lev xs)).length = bk xs := bmF_len xs _
  repeat' first
    | refine CO.cons rfl ?_
    | refine CO.nil ?_
    | refine CV.seq ?_
    | refine CV.region callees ?_
    | refine CV.cond ?_
    | refine CV.block ?_
    | refine CV.skip ?_
    | refine CV.exit ?_
    | refine CV.ret ?_
    | refine CV.scope ?_
    | refine CV.draw callees rfl ?_
    | refine CH.cons rfl ?_
    | refine CH.nil ?_
    | refine CO.consG rfl ?_
    | refine CH.consG rfl ?_
    | refine CG.cons rfl ?_
    | refine CG.nil ?_
    | refine CG.consG rfl ?_
    | refine ⟨(rfl : plain _ = true), ?_⟩
    | refine ⟨(rfl : nilOk _ = some _), ?_⟩
    | refine ⟨_, ints_len (by assumption), ?_⟩
    | refine ⟨_, ints_addr (by assumption) (by omega) (by omega), ?_⟩
    | refine ⟨_, ints_load (by assumption) (by omega) (by omega), ?_⟩
    | refine ⟨(⟨by omega, by omega⟩ : inI64 _), ?_⟩
    | refine ⟨_, fun tm ha => step1_max rfl (ev_tmp ha rfl) (ev_tmp ha rfl), ?_⟩
    | refine ⟨_, fun tm ha => step1_min rfl (ev_tmp ha rfl) (ev_tmp ha rfl), ?_⟩
    | refine ⟨_, hl.row.alen un88, ?_⟩
    | (refine ⟨fun _ => ?_, fun _ => ?_⟩ <;> first | (exfalso; omega) | skip)
    | fail
  rw [hlen]
  refine CV.loopc ?_
  refine WCv.rounds callees false (α := Value × Nat) (fun (o, i) => [(5, o), (14, l), (15, .int .i64 (bk xs)), (16, .int .i64 i)]) (fun (o, i) Hz => i ≤ bk xs ∧ Keep H2 Hz ∧ Own 3 Hz o ((levs xs i).map VI) H2.n) (fun (o, i) => bk xs - i) (.slice none 0 0, 0) (by repeat' first | exact trivial | refine ⟨rfl, ?_⟩ | refine ⟨slot_int (by (try simp only [Int.toNat_natCast]); omega), ?_⟩) ?_ ?_
  · exact ⟨by omega, Keep.refl _, .inl ⟨rfl, rfl⟩⟩
  rintro ⟨o, i⟩ Hx ⟨hi, hk, ho⟩ hBx
  have hlx := hl.row.keep hk
  by_cases hi2 : i < bk xs
  · have hat : (bmF xs (lev xs))[(i : Int).toNat]? = some [VI (fst xs i), VI (lst xs i), VI (lev xs i)] := bmF_at hi2
    repeat' first
      | refine CO.cons rfl ?_
      | refine CO.nil ?_
      | refine CV.seq ?_
      | refine CV.region callees ?_
      | refine CV.cond ?_
      | refine CV.block ?_
      | refine CV.skip ?_
      | refine CV.exit ?_
      | refine CV.ret ?_
      | refine CV.scope ?_
      | refine CV.draw callees rfl ?_
      | refine CH.cons rfl ?_
      | refine CH.nil ?_
      | refine CO.consG rfl ?_
      | refine CH.consG rfl ?_
      | refine CG.cons rfl ?_
      | refine CG.nil ?_
      | refine CG.consG rfl ?_
      | refine ⟨(rfl : plain _ = true), ?_⟩
      | refine ⟨(rfl : nilOk _ = some _), ?_⟩
      | refine ⟨_, ints_len (by assumption), ?_⟩
      | refine ⟨_, ints_addr (by assumption) (by omega) (by omega), ?_⟩
      | refine ⟨_, ints_load (by assumption) (by omega) (by omega), ?_⟩
      | refine ⟨(⟨by omega, by omega⟩ : inI64 _), ?_⟩
      | refine ⟨_, fun tm ha => step1_max rfl (ev_tmp ha rfl) (ev_tmp ha rfl), ?_⟩
      | refine ⟨_, fun tm ha => step1_min rfl (ev_tmp ha rfl) (ev_tmp ha rfl), ?_⟩
      | refine ⟨_, hlx.addr un88 sz91 (by omega) (by omega), ?_⟩
      | refine ⟨_, hlx.load ag91 sz91 hat, ?_⟩
      | refine ⟨_, _, alloc_of zc91, ?_⟩
      | (refine ⟨fun _ => ?_, fun _ => ?_⟩ <;> first | (exfalso; omega) | skip)
      | fail
    refine ⟨_, _, store_all (Heap.get_new_eq _ _) rfl sz91 rfl, hBx, ?_⟩
    have k3 : Keep Hx ((Hx.new (.cells [VI 0, VI 0, VI 0] 91 1)).set Hx.n (.cells [VI (fst xs i), VI (lst xs i), VI (lev xs i)] 91 1)) := (Keep.new _ _).set _ (Nat.le_refl _)
    have hg3 : ((Hx.new (.cells [VI 0, VI 0, VI 0] 91 1)).set Hx.n (.cells [VI (fst xs i), VI (lst xs i), VI (lev xs i)] 91 1)).get Hx.n = some (.cells [VI (fst xs i), VI (lst xs i), VI (lev xs i)] 91 1) := Heap.get_set_eq _ _ _
    have ho3 := ho.keep k3
    have k4 := hk.trans k3
    generalize (Hx.new (.cells [VI 0, VI 0, VI 0] 91 1)).set Hx.n (.cells [VI (fst xs i), VI (lst xs i), VI (lev xs i)] 91 1) = H3 at k3 hg3 ho3 k4 ⊢
    repeat' first
      | refine CO.cons rfl ?_
      | refine CO.nil ?_
      | refine CV.seq ?_
      | refine CV.region callees ?_
      | refine CV.cond ?_
      | refine CV.block ?_
      | refine CV.skip ?_
      | refine CV.exit ?_
      | refine CV.ret ?_
      | refine CV.scope ?_
      | refine CV.draw callees rfl ?_
      | refine CH.cons rfl ?_
      | refine CH.nil ?_
      | refine CO.consG rfl ?_
      | refine CH.consG rfl ?_
      | refine CG.cons rfl ?_
      | refine CG.nil ?_
      | refine CG.consG rfl ?_
      | refine ⟨(rfl : plain _ = true), ?_⟩
      | refine ⟨(rfl : nilOk _ = some _), ?_⟩
      | refine ⟨_, ints_len (by assumption), ?_⟩
      | refine ⟨_, ints_addr (by assumption) (by omega) (by omega), ?_⟩
      | refine ⟨_, ints_load (by assumption) (by omega) (by omega), ?_⟩
      | refine ⟨(⟨by omega, by omega⟩ : inI64 _), ?_⟩
      | refine ⟨_, fun tm ha => step1_max rfl (ev_tmp ha rfl) (ev_tmp ha rfl), ?_⟩
      | refine ⟨_, fun tm ha => step1_min rfl (ev_tmp ha rfl) (ev_tmp ha rfl), ?_⟩
      | refine ⟨_, field_addr fo2 (by decide), ?_⟩
      | refine ⟨_, vfield_load ag3 hg3 rfl, ?_⟩
      | refine ⟨_, _, build_one un22 one3 rfl, ?_⟩
      | (refine ⟨fun _ => ?_, fun _ => ?_⟩ <;> first | (exfalso; omega) | skip)
      | fail
    refine push_ask ho3 k4.1 hB2 (by rw [levs_length]; omega) ?_
    intro o2 H4 ho4 kb4 hf4
    have k5 := kb4.keep k4 fun c hc => (ho3.lt hc).1
    repeat' first
      | refine CO.cons rfl ?_
      | refine CO.nil ?_
      | refine CV.seq ?_
      | refine CV.region callees ?_
      | refine CV.cond ?_
      | refine CV.block ?_
      | refine CV.skip ?_
      | refine CV.exit ?_
      | refine CV.ret ?_
      | refine CV.scope ?_
      | refine CV.draw callees rfl ?_
      | refine CH.cons rfl ?_
      | refine CH.nil ?_
      | refine CO.consG rfl ?_
      | refine CH.consG rfl ?_
      | refine CG.cons rfl ?_
      | refine CG.nil ?_
      | refine CG.consG rfl ?_
      | refine ⟨(rfl : plain _ = true), ?_⟩
      | refine ⟨(rfl : nilOk _ = some _), ?_⟩
      | refine ⟨_, ints_len (by assumption), ?_⟩
      | refine ⟨_, ints_addr (by assumption) (by omega) (by omega), ?_⟩
      | refine ⟨_, ints_load (by assumption) (by omega) (by omega), ?_⟩
      | refine ⟨(⟨by omega, by omega⟩ : inI64 _), ?_⟩
      | refine ⟨_, fun tm ha => step1_max rfl (ev_tmp ha rfl) (ev_tmp ha rfl), ?_⟩
      | refine ⟨_, fun tm ha => step1_min rfl (ev_tmp ha rfl) (ev_tmp ha rfl), ?_⟩
      | (refine ⟨fun _ => ?_, fun _ => ?_⟩ <;> first | (exfalso; omega) | skip)
      | fail
    refine ⟨(o2, i + 1), (by repeat' first | exact trivial | refine ⟨rfl, ?_⟩ | refine ⟨slot_int (by (try simp only [Int.toNat_natCast]); omega), ?_⟩), (by (try dsimp only); omega), ?_⟩
    exact ⟨by omega, k5, ho4⟩
  · repeat' first
      | refine CO.cons rfl ?_
      | refine CO.nil ?_
      | refine CV.seq ?_
      | refine CV.region callees ?_
      | refine CV.cond ?_
      | refine CV.block ?_
      | refine CV.skip ?_
      | refine CV.exit ?_
      | refine CV.ret ?_
      | refine CV.scope ?_
      | refine CV.draw callees rfl ?_
      | refine CH.cons rfl ?_
      | refine CH.nil ?_
      | refine CO.consG rfl ?_
      | refine CH.consG rfl ?_
      | refine CG.cons rfl ?_
      | refine CG.nil ?_
      | refine CG.consG rfl ?_
      | refine ⟨(rfl : plain _ = true), ?_⟩
      | refine ⟨(rfl : nilOk _ = some _), ?_⟩
      | refine ⟨_, ints_len (by assumption), ?_⟩
      | refine ⟨_, ints_addr (by assumption) (by omega) (by omega), ?_⟩
      | refine ⟨_, ints_load (by assumption) (by omega) (by omega), ?_⟩
      | refine ⟨(⟨by omega, by omega⟩ : inI64 _), ?_⟩
      | refine ⟨_, fun tm ha => step1_max rfl (ev_tmp ha rfl) (ev_tmp ha rfl), ?_⟩
      | refine ⟨_, fun tm ha => step1_min rfl (ev_tmp ha rfl) (ev_tmp ha rfl), ?_⟩
      | (refine ⟨fun _ => ?_, fun _ => ?_⟩ <;> first | (exfalso; omega) | skip)
      | fail
    refine ⟨by simp only [List.all_cons, List.all_nil, ho.notTuple]; rfl, ⟨o, by rw [hc], ?_⟩, k2.trans hk⟩
    rw [if_pos hc, show bk xs = i by omega]
    exact ho.row
set_option maxRecDepth 100000 in
theorem isAt_spec {B : Nat} {H : Heap} {a b c lv q : Int} (hB : B ≤ H.n) (ha : 0 ≤ a ∧ a < 1000) (hb : 0 ≤ b ∧ b < 1000) :
    CallB Tryd.prog B 124 [.agg #[VI a, VI b, VI c], .int .i64 lv, .int .i64 q] H (fun r H' => r = .bool (c == lv && decide (a < b) && decide (2 * a ≤ q) && decide (q ≤ 2 * b)) ∧ Keep H H') := by
  refine CV.enter callees false rfl Tryd.func124 rfl ok124 (Nat.le_of_ble_eq_true rfl) hB ?_
  repeat' first
    | refine CO.cons rfl ?_
    | refine CO.nil ?_
    | refine CV.seq ?_
    | refine CV.region callees ?_
    | refine CV.cond ?_
    | refine CV.block ?_
    | refine CV.skip ?_
    | refine CV.exit ?_
    | refine CV.ret ?_
    | refine CV.scope ?_
    | refine CV.draw callees rfl ?_
    | refine CH.cons rfl ?_
    | refine CH.nil ?_
    | refine CO.consG rfl ?_
    | refine CH.consG rfl ?_
    | refine CG.cons rfl ?_
    | refine CG.nil ?_
    | refine CG.consG rfl ?_
    | refine ⟨(rfl : plain _ = true), ?_⟩
    | refine ⟨(rfl : nilOk _ = some _), ?_⟩
    | refine ⟨_, ints_len (by assumption), ?_⟩
    | refine ⟨_, ints_addr (by assumption) (by omega) (by omega), ?_⟩
    | refine ⟨_, ints_load (by assumption) (by omega) (by omega), ?_⟩
    | refine ⟨(⟨by omega, by omega⟩ : inI64 _), ?_⟩
    | refine ⟨_, fun tm ha => step1_max rfl (ev_tmp ha rfl) (ev_tmp ha rfl), ?_⟩
    | refine ⟨_, fun tm ha => step1_min rfl (ev_tmp ha rfl) (ev_tmp ha rfl), ?_⟩
    | refine ⟨(rfl : notTuple _ = true), ?_⟩
    | (refine ⟨fun _ => ?_, fun _ => ?_⟩ <;> first | (exfalso; omega) | skip)
    | fail
  have hg : (anew H (Value.agg #[VI a, VI b, VI c]).cells.toList 91 1).get H.n = some (.cells [VI a, VI b, VI c] 91 1) := Heap.get_new_eq _ _
  have k := anew_keep H (Value.agg #[VI a, VI b, VI c]).cells.toList 91 1
  generalize anew H (Value.agg #[VI a, VI b, VI c]).cells.toList 91 1 = H2 at hg k ⊢
  repeat' first
    | refine CO.cons rfl ?_
    | refine CO.nil ?_
    | refine CV.seq ?_
    | refine CV.region callees ?_
    | refine CV.cond ?_
    | refine CV.block ?_
    | refine CV.skip ?_
    | refine CV.exit ?_
    | refine CV.ret ?_
    | refine CV.scope ?_
    | refine CV.draw callees rfl ?_
    | refine CH.cons rfl ?_
    | refine CH.nil ?_
    | refine CO.consG rfl ?_
    | refine CH.consG rfl ?_
    | refine CG.cons rfl ?_
    | refine CG.nil ?_
    | refine CG.consG rfl ?_
    | refine ⟨(rfl : plain _ = true), ?_⟩
    | refine ⟨(rfl : nilOk _ = some _), ?_⟩
    | refine ⟨_, ints_len (by assumption), ?_⟩
    | refine ⟨_, ints_addr (by assumption) (by omega) (by omega), ?_⟩
    | refine ⟨_, ints_load (by assumption) (by omega) (by omega), ?_⟩
    | refine ⟨(⟨by omega, by omega⟩ : inI64 _), ?_⟩
    | refine ⟨_, fun tm ha => step1_max rfl (ev_tmp ha rfl) (ev_tmp ha rfl), ?_⟩
    | refine ⟨_, fun tm ha => step1_min rfl (ev_tmp ha rfl) (ev_tmp ha rfl), ?_⟩
    | refine ⟨_, field_addr fo2 (by decide), ?_⟩
    | refine ⟨_, field_addr fo1 (by decide), ?_⟩
    | refine ⟨_, field_addr fo0 (by decide), ?_⟩
    | refine ⟨_, vfield_load ag3 hg rfl, ?_⟩
    | (refine ⟨fun _ => ?_, fun _ => ?_⟩ <;> first | (exfalso; omega) | skip)
    | fail
  all_goals refine ⟨rfl, ?_, k⟩
  all_goals (congr 1; apply bool_eq; simp only [Bool.and_eq_true, beq_iff_eq, decide_eq_true_eq])
  all_goals first
    | exact ⟨fun _ => ⟨⟨⟨by omega, by omega⟩, by omega⟩, by omega⟩, fun _ => trivial⟩
    | exact ⟨fun h => (by cases h), fun h => (by exfalso; omega)⟩
theorem base_signs {H : Heap} (h : Base H) : H.get 0 = some (.cells ([32,45,124,111,124,120].map fun n => Value.int .u8 n) 0 0) := h.2 0 _ rfl
theorem sign_load {H : Heap} (h : Base H) {k w : Nat} {x : Int} (hx : ([32,45,124,111,124,120] : List Int)[k * 2 + w]? = some x) : aload Tryd.prog 5 H (.pointer (some ⟨0, 0 + k * 2 + w * 1, none⟩)) = some (.int .u8 x) := by
  simp only [aload, base_signs h, ag5]
  rw [List.getElem?_map, show 0 + k * 2 + w * 1 = k * 2 + w by omega, hx]; rfl
set_option maxRecDepth 100000 in
theorem isNaN_spec {B : Nat} {H : Heap} {a : Int} (hB : B ≤ H.n) : CallB Tryd.prog B 132 [.int .i64 a] H (fun r H' => r = .bool false ∧ H' = H) := by
  refine CV.enter callees false rfl Tryd.func132 rfl ok132 (Nat.le_of_ble_eq_true rfl) hB ?_
  repeat' first
    | refine CO.cons rfl ?_
    | refine CO.nil ?_
    | refine CV.seq ?_
    | refine CV.region callees ?_
    | refine CV.cond ?_
    | refine CV.block ?_
    | refine CV.skip ?_
    | refine CV.exit ?_
    | refine CV.ret ?_
    | refine CV.scope ?_
    | refine CV.draw callees rfl ?_
    | refine CH.cons rfl ?_
    | refine CH.nil ?_
    | refine CO.consG rfl ?_
    | refine CH.consG rfl ?_
    | refine CG.cons rfl ?_
    | refine CG.nil ?_
    | refine CG.consG rfl ?_
    | refine ⟨(rfl : plain _ = true), ?_⟩
    | refine ⟨(rfl : nilOk _ = some _), ?_⟩
    | refine ⟨_, ints_len (by assumption), ?_⟩
    | refine ⟨_, ints_addr (by assumption) (by omega) (by omega), ?_⟩
    | refine ⟨_, ints_load (by assumption) (by omega) (by omega), ?_⟩
    | refine ⟨(⟨by omega, by omega⟩ : inI64 _), ?_⟩
    | refine ⟨_, fun tm ha => step1_max rfl (ev_tmp ha rfl) (ev_tmp ha rfl), ?_⟩
    | refine ⟨_, fun tm ha => step1_min rfl (ev_tmp ha rfl) (ev_tmp ha rfl), ?_⟩
    | (refine ⟨fun _ => ?_, fun _ => ?_⟩ <;> first | (exfalso; omega) | skip)
    | fail
  exact ⟨rfl, rfl, rfl⟩
def cmpR (a b : Int) : Int := if a < b then -1 else if b < a then 1 else 0
set_option maxRecDepth 100000 in
theorem cmp_spec {B : Nat} {H : Heap} {a b : Int} (hB : B ≤ H.n) : CallB Tryd.prog B 125 [.int .i64 a, .int .i64 b] H (fun r H' => r = .int .i64 (cmpR a b) ∧ H' = H) := by
  refine CV.enter callees false rfl Tryd.func125 rfl ok125 (Nat.le_of_ble_eq_true rfl) hB ?_
  repeat' first
    | refine CO.cons rfl ?_
    | refine CO.nil ?_
    | refine CV.seq ?_
    | refine CV.region callees ?_
    | refine CV.cond ?_
    | refine CV.block ?_
    | refine CV.skip ?_
    | refine CV.exit ?_
    | refine CV.ret ?_
    | refine CV.scope ?_
    | refine CV.draw callees rfl ?_
    | refine CH.cons rfl ?_
    | refine CH.nil ?_
    | refine CO.consG rfl ?_
    | refine CH.consG rfl ?_
    | refine CG.cons rfl ?_
    | refine CG.nil ?_
    | refine CG.consG rfl ?_
    | refine ⟨(rfl : plain _ = true), ?_⟩
    | refine ⟨(rfl : nilOk _ = some _), ?_⟩
    | refine ⟨_, ints_len (by assumption), ?_⟩
    | refine ⟨_, ints_addr (by assumption) (by omega) (by omega), ?_⟩
    | refine ⟨_, ints_load (by assumption) (by omega) (by omega), ?_⟩
    | refine ⟨(⟨by omega, by omega⟩ : inI64 _), ?_⟩
    | refine ⟨_, fun tm ha => step1_max rfl (ev_tmp ha rfl) (ev_tmp ha rfl), ?_⟩
    | refine ⟨_, fun tm ha => step1_min rfl (ev_tmp ha rfl) (ev_tmp ha rfl), ?_⟩
    | (refine (isNaN_spec hB).mono ?_; rintro r H' ⟨rfl, rfl⟩)
    | (refine ⟨fun _ => ?_, fun _ => ?_⟩ <;> first | (exfalso; omega) | skip)
    | fail
  · exact ⟨rfl, by rw [cmpR, if_pos (by assumption)], rfl⟩
  · exact ⟨rfl, by rw [cmpR, if_neg (by assumption), if_pos (by omega)], rfl⟩
  · exact ⟨rfl, by rw [cmpR, if_neg (by assumption), if_neg (by omega)], rfl⟩
set_option maxHeartbeats 2000000 in
set_option maxRecDepth 100000 in
theorem sign_spec {B : Nat} {v l : Value} {H : Heap} {xs : List Int} {row : Int} {c : Nat} (hB : B ≤ H.n) (hBase : Base H) (hv : Ints H v xs) (hc : check xs = 0) (hl : RowS 3 H l (bmF xs (lev xs))) (hcn : c < 2 * xs.length - 1) :
    CallB Tryd.prog B 113 [v, l, .int .i64 row, .int .i64 c] H (fun r H' => r = .int .u8 (ch xs row c) ∧ Keep H H') := by
  have hlx := check_len hc
  have hk9 := bk_le9 hc
  have hlen : (bmF xs (lev xs)).length = bk xs := bmF_len xs _
  refine CV.enter callees false rfl Tryd.func113 rfl ok113 (Nat.le_of_ble_eq_true rfl) hB ?_
  repeat' first
    | refine CO.cons rfl ?_
    | refine CO.nil ?_
    | refine CV.seq ?_
    | refine CV.region callees ?_
    | refine CV.cond ?_
    | refine CV.block ?_
    | refine CV.skip ?_
    | refine CV.exit ?_
    | refine CV.ret ?_
    | refine CV.scope ?_
    | refine CV.draw callees rfl ?_
    | refine CH.cons rfl ?_
    | refine CH.nil ?_
    | refine CO.consG rfl ?_
    | refine CH.consG rfl ?_
    | refine CG.cons rfl ?_
    | refine CG.nil ?_
    | refine CG.consG rfl ?_
    | refine ⟨(rfl : plain _ = true), ?_⟩
    | refine ⟨(rfl : nilOk _ = some _), ?_⟩
    | refine ⟨_, ints_len (by assumption), ?_⟩
    | refine ⟨_, ints_addr (by assumption) (by omega) (by omega), ?_⟩
    | refine ⟨_, ints_load (by assumption) (by omega) (by omega), ?_⟩
    | refine ⟨(⟨by omega, by omega⟩ : inI64 _), ?_⟩
    | refine ⟨_, fun tm ha => step1_max rfl (ev_tmp ha rfl) (ev_tmp ha rfl), ?_⟩
    | refine ⟨_, fun tm ha => step1_min rfl (ev_tmp ha rfl) (ev_tmp ha rfl), ?_⟩
    | refine ⟨_, hl.alen un88, ?_⟩
    | (refine ⟨fun _ => ?_, fun _ => ?_⟩ <;> first | (exfalso; omega) | skip)
    | fail
  rw [hlen]
  refine CV.loopc ?_
  refine WCv.rounds callees false (α := Nat) (fun i => [(0, v), (1, l), (2, .int .i64 row), (3, .int .i64 c), (9, .int .i64 (if cvr xs row c i then 1 else 0)), (12, l), (13, .int .i64 (bk xs)), (14, .int .i64 i)]) (fun i Hz => i ≤ bk xs ∧ Keep H Hz) (fun i => bk xs - i) (0) (by repeat' first | exact trivial | refine ⟨rfl, ?_⟩ | refine ⟨slot_int (by (try simp only [Int.toNat_natCast]); omega), ?_⟩) ?_ ?_
  · exact ⟨by omega, Keep.refl _⟩
  rintro i Hx ⟨hi, hk⟩ hBx
  have hlx2 := hl.keep hk
  by_cases hi2 : i < bk xs
  · have hat : (bmF xs (lev xs))[(i : Int).toNat]? = some [VI (fst xs i), VI (lst xs i), VI (lev xs i)] := bmF_at hi2
    have hsp := span_blk hc hi2
    repeat' first
      | refine CO.cons rfl ?_
      | refine CO.nil ?_
      | refine CV.seq ?_
      | refine CV.region callees ?_
      | refine CV.cond ?_
      | refine CV.block ?_
      | refine CV.skip ?_
      | refine CV.exit ?_
      | refine CV.ret ?_
      | refine CV.scope ?_
      | refine CV.draw callees rfl ?_
      | refine CH.cons rfl ?_
      | refine CH.nil ?_
      | refine CO.consG rfl ?_
      | refine CH.consG rfl ?_
      | refine CG.cons rfl ?_
      | refine CG.nil ?_
      | refine CG.consG rfl ?_
      | refine ⟨(rfl : plain _ = true), ?_⟩
      | refine ⟨(rfl : nilOk _ = some _), ?_⟩
      | refine ⟨_, ints_len (by assumption), ?_⟩
      | refine ⟨_, ints_addr (by assumption) (by omega) (by omega), ?_⟩
      | refine ⟨_, ints_load (by assumption) (by omega) (by omega), ?_⟩
      | refine ⟨(⟨by omega, by omega⟩ : inI64 _), ?_⟩
      | refine ⟨_, fun tm ha => step1_max rfl (ev_tmp ha rfl) (ev_tmp ha rfl), ?_⟩
      | refine ⟨_, fun tm ha => step1_min rfl (ev_tmp ha rfl) (ev_tmp ha rfl), ?_⟩
      | refine ⟨_, hlx2.addr un88 sz91 (by omega) (by omega), ?_⟩
      | refine ⟨_, hlx2.load ag91 sz91 hat, ?_⟩
      | refine ⟨_, _, alloc_of zc91, ?_⟩
      | (refine ⟨fun _ => ?_, fun _ => ?_⟩ <;> first | (exfalso; omega) | skip)
      | fail
    refine ⟨_, _, store_all (Heap.get_new_eq _ _) rfl sz91 rfl, hBx, ?_⟩
    have k3 : Keep Hx ((Hx.new (.cells [VI 0, VI 0, VI 0] 91 1)).set Hx.n (.cells [VI (fst xs i), VI (lst xs i), VI (lev xs i)] 91 1)) := (Keep.new _ _).set _ (Nat.le_refl _)
    have hg3 : ((Hx.new (.cells [VI 0, VI 0, VI 0] 91 1)).set Hx.n (.cells [VI (fst xs i), VI (lst xs i), VI (lev xs i)] 91 1)).get Hx.n = some (.cells [VI (fst xs i), VI (lst xs i), VI (lev xs i)] 91 1) := Heap.get_set_eq _ _ _
    have k4 := hk.trans k3
    generalize (Hx.new (.cells [VI 0, VI 0, VI 0] 91 1)).set Hx.n (.cells [VI (fst xs i), VI (lst xs i), VI (lev xs i)] 91 1) = H3 at k3 hg3 k4 ⊢
    have hload : aload Tryd.prog 91 H3 (.pointer (some ⟨Hx.n, 0, none⟩)) = some (.agg #[VI (fst xs i), VI (lst xs i), VI (lev xs i)]) := by
      simp only [aload, hg3, ag91, sz91]; rfl
    repeat' first
      | refine CO.cons rfl ?_
      | refine CO.nil ?_
      | refine CV.seq ?_
      | refine CV.region callees ?_
      | refine CV.cond ?_
      | refine CV.block ?_
      | refine CV.skip ?_
      | refine CV.exit ?_
      | refine CV.ret ?_
      | refine CV.scope ?_
      | refine CV.draw callees rfl ?_
      | refine CH.cons rfl ?_
      | refine CH.nil ?_
      | refine CO.consG rfl ?_
      | refine CH.consG rfl ?_
      | refine CG.cons rfl ?_
      | refine CG.nil ?_
      | refine CG.consG rfl ?_
      | refine ⟨(rfl : plain _ = true), ?_⟩
      | refine ⟨(rfl : nilOk _ = some _), ?_⟩
      | refine ⟨_, ints_len (by assumption), ?_⟩
      | refine ⟨_, ints_addr (by assumption) (by omega) (by omega), ?_⟩
      | refine ⟨_, ints_load (by assumption) (by omega) (by omega), ?_⟩
      | refine ⟨(⟨by omega, by omega⟩ : inI64 _), ?_⟩
      | refine ⟨_, fun tm ha => step1_max rfl (ev_tmp ha rfl) (ev_tmp ha rfl), ?_⟩
      | refine ⟨_, fun tm ha => step1_min rfl (ev_tmp ha rfl) (ev_tmp ha rfl), ?_⟩
      | refine ⟨_, hload, ?_⟩
      | (refine ⟨fun _ => ?_, fun _ => ?_⟩ <;> first | (exfalso; omega) | skip)
      | fail
    refine (isAt_spec (Nat.le_trans hB k4.1) (by have := hsp.f0; have := hsp.fl; have := hsp.ln; omega) (by have := hsp.f0; have := hsp.fl; have := hsp.ln; omega)).mono ?_
    rintro r H4 ⟨rfl, k5⟩
    have hcv : cvr xs row c (i + 1) = (cvr xs row c i || (lev xs i == row && decide (fst xs i < lst xs i) && decide (2 * fst xs i ≤ c) && decide (c ≤ 2 * lst xs i))) := rfl
    cases hb : (lev xs i == row && decide (fst xs i < lst xs i) && decide (2 * fst xs i ≤ (c : Int)) && decide ((c : Int) ≤ 2 * lst xs i)) with
    | true =>
      rw [hb, Bool.or_true] at hcv
      repeat' first
        | refine CO.cons rfl ?_
        | refine CO.nil ?_
        | refine CV.seq ?_
        | refine CV.region callees ?_
        | refine CV.cond ?_
        | refine CV.block ?_
        | refine CV.skip ?_
        | refine CV.exit ?_
        | refine CV.ret ?_
        | refine CV.scope ?_
        | refine CV.draw callees rfl ?_
        | refine CH.cons rfl ?_
        | refine CH.nil ?_
        | refine CO.consG rfl ?_
        | refine CH.consG rfl ?_
        | refine CG.cons rfl ?_
        | refine CG.nil ?_
        | refine CG.consG rfl ?_
        | refine ⟨(rfl : plain _ = true), ?_⟩
        | refine ⟨(rfl : nilOk _ = some _), ?_⟩
        | refine ⟨_, ints_len (by assumption), ?_⟩
        | refine ⟨_, ints_addr (by assumption) (by omega) (by omega), ?_⟩
        | refine ⟨_, ints_load (by assumption) (by omega) (by omega), ?_⟩
        | refine ⟨(⟨by omega, by omega⟩ : inI64 _), ?_⟩
        | refine ⟨_, fun tm ha => step1_max rfl (ev_tmp ha rfl) (ev_tmp ha rfl), ?_⟩
        | refine ⟨_, fun tm ha => step1_min rfl (ev_tmp ha rfl) (ev_tmp ha rfl), ?_⟩
        | (refine ⟨fun _ => ?_, fun _ => ?_⟩ <;> first | (exfalso; omega) | skip)
        | fail
      refine ⟨i + 1, ⟨rfl, rfl, rfl, rfl, by rw [hcv]; rfl, rfl, rfl, rfl, trivial⟩, by (try dsimp only); omega, by omega, k4.trans k5⟩
    | false =>
      rw [hb, Bool.or_false] at hcv
      repeat' first
        | refine CO.cons rfl ?_
        | refine CO.nil ?_
        | refine CV.seq ?_
        | refine CV.region callees ?_
        | refine CV.cond ?_
        | refine CV.block ?_
        | refine CV.skip ?_
        | refine CV.exit ?_
        | refine CV.ret ?_
        | refine CV.scope ?_
        | refine CV.draw callees rfl ?_
        | refine CH.cons rfl ?_
        | refine CH.nil ?_
        | refine CO.consG rfl ?_
        | refine CH.consG rfl ?_
        | refine CG.cons rfl ?_
        | refine CG.nil ?_
        | refine CG.consG rfl ?_
        | refine ⟨(rfl : plain _ = true), ?_⟩
        | refine ⟨(rfl : nilOk _ = some _), ?_⟩
        | refine ⟨_, ints_len (by assumption), ?_⟩
        | refine ⟨_, ints_addr (by assumption) (by omega) (by omega), ?_⟩
        | refine ⟨_, ints_load (by assumption) (by omega) (by omega), ?_⟩
        | refine ⟨(⟨by omega, by omega⟩ : inI64 _), ?_⟩
        | refine ⟨_, fun tm ha => step1_max rfl (ev_tmp ha rfl) (ev_tmp ha rfl), ?_⟩
        | refine ⟨_, fun tm ha => step1_min rfl (ev_tmp ha rfl) (ev_tmp ha rfl), ?_⟩
        | (refine ⟨fun _ => ?_, fun _ => ?_⟩ <;> first | (exfalso; omega) | skip)
        | fail
      refine ⟨i + 1, ⟨rfl, rfl, rfl, rfl, by rw [hcv]; rfl, rfl, rfl, rfl, trivial⟩, by (try dsimp only); omega, by omega, k4.trans k5⟩
  · have hib : i = bk xs := by omega
    subst hib
    have hBx' := hBase.keep hk
    have hvx := hv.keep hk
    obtain ⟨w, hw, hsg⟩ : ∃ w : Nat, (if cvr xs row c (bk xs) then (1 : Int) else 0) = (w : Int) ∧ ∀ k : Nat, k < 3 → w < 2 ∧ ([32,45,124,111,124,120] : List Int)[k * 2 + w]? = some (if cvr xs row c (bk xs) then ([45,111,120] : List Int)[k]! else ([32,124,124] : List Int)[k]!) := by
      cases cvr xs row c (bk xs)
      · exact ⟨0, rfl, fun k hk3 => by
          have : k = 0 ∨ k = 1 ∨ k = 2 := by omega
          rcases this with rfl | rfl | rfl <;> exact ⟨by omega, rfl⟩⟩
      · exact ⟨1, rfl, fun k hk3 => by
          have : k = 0 ∨ k = 1 ∨ k = 2 := by omega
          rcases this with rfl | rfl | rfl <;> exact ⟨by omega, rfl⟩⟩
    rw [hw]
    have hw2 := (hsg 0 (by omega)).1
    have htm : (c : Int).tmod 2 = (c : Int) % 2 := Int.tmod_eq_emod_of_nonneg (by omega)
    have htd : (c : Int).tdiv 2 = (c : Int) / 2 := Int.tdiv_eq_ediv_of_nonneg (by omega)
    repeat' first
      | refine CO.cons rfl ?_
      | refine CO.nil ?_
      | refine CV.seq ?_
      | refine CV.region callees ?_
      | refine CV.cond ?_
      | refine CV.block ?_
      | refine CV.skip ?_
      | refine CV.exit ?_
      | refine CV.ret ?_
      | refine CV.scope ?_
      | refine CV.draw callees rfl ?_
      | refine CH.cons rfl ?_
      | refine CH.nil ?_
      | refine CO.consG rfl ?_
      | refine CH.consG rfl ?_
      | refine CG.cons rfl ?_
      | refine CG.nil ?_
      | refine CG.consG rfl ?_
      | refine ⟨(rfl : plain _ = true), ?_⟩
      | refine ⟨(rfl : nilOk _ = some _), ?_⟩
      | refine ⟨_, ints_len (by assumption), ?_⟩
      | refine ⟨_, ints_addr (by assumption) (by omega) (by omega), ?_⟩
      | refine ⟨_, ints_load (by assumption) (by omega) (by omega), ?_⟩
      | refine ⟨(⟨by omega, by omega⟩ : inI64 _), ?_⟩
      | refine ⟨_, fun tm ha => step1_max rfl (ev_tmp ha rfl) (ev_tmp ha rfl), ?_⟩
      | refine ⟨_, fun tm ha => step1_min rfl (ev_tmp ha rfl) (ev_tmp ha rfl), ?_⟩
      | refine ⟨_, fun tm ha => step1_rem rfl (ev_tmp ha rfl) rfl (by decide), ?_⟩
      | refine ⟨_, array_addr un122 sz121 (by omega) (by omega), ?_⟩
      | refine ⟨_, array_addr un121 sz5 (by omega) (by omega), ?_⟩
      | refine ⟨_, sign_load hBx' (hsg 0 (by omega)).2, ?_⟩
      | (refine ⟨fun _ => ?_, fun _ => ?_⟩ <;> first | (exfalso; omega) | skip)
      | fail
    · rename_i h1
      rw [htm] at h1
      refine ⟨rfl, ?_, hk⟩
      rw [ch, if_pos h1]
      rfl
    · rename_i h1
      rw [htm] at h1
      repeat' first
        | refine CO.cons rfl ?_
        | refine CO.nil ?_
        | refine CV.seq ?_
        | refine CV.region callees ?_
        | refine CV.cond ?_
        | refine CV.block ?_
        | refine CV.skip ?_
        | refine CV.exit ?_
        | refine CV.ret ?_
        | refine CV.scope ?_
        | refine CV.draw callees rfl ?_
        | refine CH.cons rfl ?_
        | refine CH.nil ?_
        | refine CO.consG rfl ?_
        | refine CH.consG rfl ?_
        | refine CG.cons rfl ?_
        | refine CG.nil ?_
        | refine CG.consG rfl ?_
        | refine ⟨(rfl : plain _ = true), ?_⟩
        | refine ⟨(rfl : nilOk _ = some _), ?_⟩
        | refine ⟨_, ints_len (by assumption), ?_⟩
        | refine ⟨_, ints_addr (by assumption) (by omega) (by omega), ?_⟩
        | refine ⟨_, ints_load (by assumption) (by omega) (by omega), ?_⟩
        | refine ⟨(⟨by omega, by omega⟩ : inI64 _), ?_⟩
        | refine ⟨_, fun tm ha => step1_max rfl (ev_tmp ha rfl) (ev_tmp ha rfl), ?_⟩
        | refine ⟨_, fun tm ha => step1_min rfl (ev_tmp ha rfl) (ev_tmp ha rfl), ?_⟩
        | refine ⟨_, fun tm ha => step1_quoI rfl (ev_tmp ha rfl) rfl (by omega) (by omega) (by omega), ?_⟩
        | (refine ⟨fun _ => ?_, fun _ => ?_⟩ <;> first | (exfalso; omega) | skip)
        | fail
      rw [htd]
      have hi := blk_of hc (i := ((c : Int) / 2).toNat) (by omega)
      have hat : (bmF xs (lev xs))[xs[((c : Int) / 2).toNat]!.toNat]? = some [VI (fst xs (xs[((c : Int) / 2).toNat]!.toNat : Nat)), VI (lst xs (xs[((c : Int) / 2).toNat]!.toNat : Nat)), VI (lev xs xs[((c : Int) / 2).toNat]!.toNat)] := bmF_at hi.2.1
      obtain ⟨k, hk1, hk2⟩ : ∃ k : Nat, cmpR row (lev xs xs[((c : Int) / 2).toNat]!.toNat) = (k : Int) - 1 ∧ k < 3 := by
        unfold cmpR
        split
        · exact ⟨0, by omega, by omega⟩
        · split
          · exact ⟨2, by omega, by omega⟩
          · exact ⟨1, by omega, by omega⟩
      have hkk : (1 + ((k : Int) - 1)).toNat = k := by omega
      repeat' first
        | refine CO.cons rfl ?_
        | refine CO.nil ?_
        | refine CV.seq ?_
        | refine CV.region callees ?_
        | refine CV.cond ?_
        | refine CV.block ?_
        | refine CV.skip ?_
        | refine CV.exit ?_
        | refine CV.ret ?_
        | refine CV.scope ?_
        | refine CV.draw callees rfl ?_
        | refine CH.cons rfl ?_
        | refine CH.nil ?_
        | refine CO.consG rfl ?_
        | refine CH.consG rfl ?_
        | refine CG.cons rfl ?_
        | refine CG.nil ?_
        | refine CG.consG rfl ?_
        | refine ⟨(rfl : plain _ = true), ?_⟩
        | refine ⟨(rfl : nilOk _ = some _), ?_⟩
        | refine ⟨_, ints_len (by assumption), ?_⟩
        | refine ⟨_, ints_addr (by assumption) (by omega) (by omega), ?_⟩
        | refine ⟨_, ints_load (by assumption) (by omega) (by omega), ?_⟩
        | refine ⟨(⟨by omega, by omega⟩ : inI64 _), ?_⟩
        | refine ⟨_, fun tm ha => step1_max rfl (ev_tmp ha rfl) (ev_tmp ha rfl), ?_⟩
        | refine ⟨_, fun tm ha => step1_min rfl (ev_tmp ha rfl) (ev_tmp ha rfl), ?_⟩
        | refine ⟨_, hlx2.addr un88 sz91 (by omega) (by omega), ?_⟩
        | refine ⟨_, hlx2.faddr fo2 (by decide) (by omega), ?_⟩
        | refine ⟨_, hlx2.fload ag3 hat rfl, ?_⟩
        | (refine (cmp_spec hBx).mono ?_; rintro r H' ⟨rfl, rfl⟩; rw [hk1])
        | refine ⟨_, array_addr un122 sz121 (by omega) (by omega), ?_⟩
        | refine ⟨_, array_addr un121 sz5 (by omega) (by omega), ?_⟩
        | refine ⟨_, sign_load hBx' (hsg _ (by omega)).2, ?_⟩
        | (refine ⟨fun _ => ?_, fun _ => ?_⟩ <;> first | (exfalso; omega) | skip)
        | fail
      rw [hkk]
      refine ⟨rfl, ?_, hk⟩
      rw [ch, if_neg h1]
      unfold cmpR at hk1
      split at hk1
      · rename_i h2
        have : k = 0 := by omega
        subst this
        rw [if_pos h2]; rfl
      · rename_i h2
        rw [if_neg h2]
        split at hk1
        · have : k = 2 := by omega
          subst this
          rw [if_neg (show ¬ row = lev xs (xs[((c : Int) / 2).toNat]!).toNat by omega)]; rfl
        · have : k = 1 := by omega
          subst this
          rw [if_pos (show row = lev xs (xs[((c : Int) / 2).toNat]!).toNat by omega)]; rfl
end Go.Proofs.YthcchjmjblegdaaDoor
