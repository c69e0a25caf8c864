
/- Marks. -/
import Derived.Test.YtcpklnekpdhlmaaS3s
set_option linter.unusedVariables false
set_option linter.unusedSimpArgs false
namespace Go.Proofs.Ytcpklnekpdhlmaa
open Go.AI
/-- A score. -/
abbrev Xv (p k w r n o s h : Int) : Value := .agg #[.int .i64 p, .int .i64 k, .int .i64 w, .int .i64 r, .int .i64 n, .int .i64 o, .int .i64 s, .int .i64 h]
abbrev Xl (p k w r n o s h : Int) : List Value := [.int .i64 p, .int .i64 k, .int .i64 w, .int .i64 r, .int .i64 n, .int .i64 o, .int .i64 s, .int .i64 h]
abbrev Xc (p k w r n o s h : Int) : AObj := .cells (Xl p k w r n o s h) 36 1
theorem zeroX : zeroCells Try.prog 36 = some (Xl 0 0 0 0 0 0 0 0) := by kernel_rfl
theorem allocX {H : Heap} : sAlloc Try.prog H 36 = some (.pointer (some ⟨H.n, 0, none⟩), H.new (Xc 0 0 0 0 0 0 0 0), H.n) := alloc_of zeroX
theorem buildX {n h : Int} : abuild Try.prog 36 [(4, .int .i64 n), (7, .int .i64 h)] = some (Xv 0 0 0 0 n 0 0 h) := by kernel_rfl
theorem buildX0 : abuild Try.prog 36 [] = some (Xv 0 0 0 0 0 0 0 0) := by kernel_rfl
theorem foX0 : fieldOff Try.prog 36 0 = some (0, 1) := by kernel_rfl
theorem foX1 : fieldOff Try.prog 36 1 = some (1, 1) := by kernel_rfl
theorem foX2 : fieldOff Try.prog 36 2 = some (2, 1) := by kernel_rfl
theorem foX3 : fieldOff Try.prog 36 3 = some (3, 1) := by kernel_rfl
theorem foX4 : fieldOff Try.prog 36 4 = some (4, 1) := by kernel_rfl
theorem foX5 : fieldOff Try.prog 36 5 = some (5, 1) := by kernel_rfl
theorem foX6 : fieldOff Try.prog 36 6 = some (6, 1) := by kernel_rfl
theorem foX7 : fieldOff Try.prog 36 7 = some (7, 1) := by kernel_rfl
theorem foX (i : Nat) (hi : i < 8) : fieldOff Try.prog 36 i = some (i, 1) := by
  match i, hi with
  | 0, _ => exact foX0
  | 1, _ => exact foX1
  | 2, _ => exact foX2
  | 3, _ => exact foX3
  | 4, _ => exact foX4
  | 5, _ => exact foX5
  | 6, _ => exact foX6
  | 7, _ => exact foX7
theorem addrX {b i : Nat} (hi : i < 8) : afieldAddr Try.prog 36 (.pointer (some ⟨b, 0, none⟩)) i = some (.pointer (some ⟨b, i, none⟩)) := by
  rw [field_addr (foX i hi) (by decide), Nat.zero_add]
theorem agX : isAggB Try.prog 36 = some true := by kernel_rfl
theorem szX : sizeB Try.prog 36 = some 8 := by kernel_rfl
theorem loadX {H : Heap} {b : Nat} {p k w r n o s h : Int} (hg : H.get b = some (Xc p k w r n o s h)) : aload Try.prog 36 H (.pointer (some ⟨b, 0, none⟩)) = some (Xv p k w r n o s h) := by
  simp [aload, hg, agX, szX]
theorem storeX {H : Heap} {b : Nat} {p k w r n o s h p' k' w' r' n' o' s' h' : Int} (hg : H.get b = some (Xc p k w r n o s h)) : astore Try.prog 36 H (Xv p' k' w' r' n' o' s' h') (.pointer (some ⟨b, 0, none⟩)) = some (H.set b (Xc p' k' w' r' n' o' s' h'), b) :=
  store_all (vs := Xl p' k' w' r' n' o' s' h') hg rfl szX rfl
/-- One field of a score. -/
theorem putX {H : Heap} {K : Heap → Prop} {B b i : Nat} {y : Int} {cs : List Value} (hB : B ≤ b) (hg : H.get b = some (.cells cs 36 1)) (hi : i < cs.length) (hk : ∀ H', H'.get b = some (.cells (cs.set i (.int .i64 y)) 36 1) → (∀ c, c ≠ b → H'.get c = H.get c) → H'.n = H.n → K H') :
    ∃ H' c, astore Try.prog 3 H (.int .i64 y) (.pointer (some ⟨b, i, none⟩)) = some (H', c) ∧ B ≤ c ∧ K H' :=
  ⟨_, _, store_row sz3 hg hi rfl, hB, hk _ (Heap.get_set_eq _ _ _) (fun c hc => Heap.get_set_ne _ _ (Ne.symm hc)) rfl⟩
theorem keep_put {H H1 H2 : Heap} {b : Nat} (k : Keep H H1) (hb : H.n ≤ b) (ho : ∀ c, c ≠ b → H2.get c = H1.get c) (hn : H2.n = H1.n) : Keep H H2 :=
  ⟨by rw [hn]; exact k.1, fun c hc => by rw [ho c (by omega)]; exact k.2 c hc⟩
theorem mulB {x : Int} {k m : Nat} (h0 : 0 ≤ x) (h1 : x ≤ 1000) (hk : k ≤ m) : 0 ≤ x * (k : Int) ∧ x * (k : Int) ≤ 1000 * (m : Int) :=
  ⟨Int.mul_nonneg h0 (by omega), Int.mul_le_mul h1 (by omega) (by omega) (by omega)⟩
def whN (ts ws : List Int) : Nat := if pkN ts ws ws.length = ws.length then 1 else 0
def ptsN (a c w n l : Int) (ts ws : List Int) : Int :=
  a * (pkN ts ws ws.length : Int) + c * (prN ts ws ws.length : Int) + n * (hdN ts ws ws.length : Int) + w * (whN ts ws : Int) - l * (wrN ts ws ws.length : Int)
/-- The score of a valid answer, but for the honour. -/
abbrev XM (a c w n l : Int) (ts ws : List Int) (ho : Int) : Value :=
  Xv (ptsN a c w n l ts ws) (pkN ts ws ws.length : Int) (wrN ts ws ws.length : Int) (prN ts ws ws.length : Int) (hdN ts ws ws.length : Int) (whN ts ws : Int) (stN ts ws ws.length : Int) ho
set_option maxHeartbeats 4000000 in
set_option maxRecDepth 100000 in
theorem marked_spec {B : Nat} {H : Heap} {a c w n l : Int} {k v u : Value} {ks ts ws : List Int} (hB : B ≤ H.n) (hk : Ints H k ks) (hv : Ints H v ts) (hu : Ints H u ws) (hp : ptsOk a c w n l) (ht : check ts = 0) (hl : ws.length = ts.length) :
    CallB Try.prog B 54 [Sv a c w n l k, v, u] H (fun r H' => (∃ ho, r = XM a c w n l ts ws ho ∧ Hon ts ws ho ∧ 0 ≤ ho ∧ ho ≤ 3) ∧ Keep H H') := by
  have h9 := check_len ht
  refine CV.enter callees false rfl Try.func54 rfl (by kernel_rfl) (Nat.le_of_ble_eq_true rfl) hB ?_
  repeat' first
    | refine CO.cons rfl ?_
    | refine CO.nil ?_
    | refine CV.seq ?_
    | refine CV.region callees ?_
    | refine CV.cond ?_
    | refine CV.block ?_
    | refine CV.skip ?_
    | refine CV.exit ?_
    | refine CV.ret ?_
    | refine CV.scope ?_
    | refine CV.draw callees rfl ?_
    | refine CH.cons rfl ?_
    | refine CH.nil ?_
    | refine CO.consG rfl ?_
    | refine CH.consG rfl ?_
    | refine CG.cons rfl ?_
    | refine CR.cons ?_
    | refine CR.nil ?_
    | refine CG.nil ?_
    | refine CG.consG rfl ?_
    | refine ⟨(rfl : plain _ = true), ?_⟩
    | refine ⟨(rfl : nilOk _ = some _), ?_⟩
    | refine ⟨_, ints_len (by assumption), ?_⟩
    | refine ⟨_, ints_addr (by assumption) (by omega) (by omega), ?_⟩
    | refine ⟨_, ints_load (by assumption) (by omega) (by omega), ?_⟩
    | refine ⟨(⟨by omega, by omega⟩ : inI64 _), ?_⟩
    | refine ⟨_, fun tm ha => step1_max rfl (ev_tmp ha rfl) (ev_tmp ha rfl), ?_⟩
    | refine ⟨_, fun tm ha => step1_min rfl (ev_tmp ha rfl) (ev_tmp ha rfl), ?_⟩
    | (refine ⟨(rfl : notTuple _ = true), ?_⟩)
    | (refine ⟨fun _ => ?_, fun _ => ?_⟩ <;> first | (exfalso; omega) | skip)
    | fail
  rw [alloc_sc hk.oneC.2.2]
  generalize hs1 : H.new (Sc a c w n l k) = Ha
  have hg1 := new_get hs1
  have k1 := new_keep hs1
  have n1 := new_n hs1
  repeat' first
    | refine CO.cons rfl ?_
    | refine CO.nil ?_
    | refine CV.seq ?_
    | refine CV.region callees ?_
    | refine CV.cond ?_
    | refine CV.block ?_
    | refine CV.skip ?_
    | refine CV.exit ?_
    | refine CV.ret ?_
    | refine CV.scope ?_
    | refine CV.draw callees rfl ?_
    | refine CH.cons rfl ?_
    | refine CH.nil ?_
    | refine CO.consG rfl ?_
    | refine CH.consG rfl ?_
    | refine CG.cons rfl ?_
    | refine CR.cons ?_
    | refine CR.nil ?_
    | refine CG.nil ?_
    | refine CG.consG rfl ?_
    | refine ⟨(rfl : plain _ = true), ?_⟩
    | refine ⟨(rfl : nilOk _ = some _), ?_⟩
    | refine ⟨_, ints_len (by assumption), ?_⟩
    | refine ⟨_, ints_addr (by assumption) (by omega) (by omega), ?_⟩
    | refine ⟨_, ints_load (by assumption) (by omega) (by omega), ?_⟩
    | refine ⟨(⟨by omega, by omega⟩ : inI64 _), ?_⟩
    | refine ⟨_, fun tm ha => step1_max rfl (ev_tmp ha rfl) (ev_tmp ha rfl), ?_⟩
    | refine ⟨_, fun tm ha => step1_min rfl (ev_tmp ha rfl) (ev_tmp ha rfl), ?_⟩
    | (refine ⟨_, _, allocX, ?_⟩)
    | (refine ⟨fun _ => ?_, fun _ => ?_⟩ <;> first | (exfalso; omega) | skip)
    | fail
  generalize hs2 : Ha.new (Xc 0 0 0 0 0 0 0 0) = H1
  have hgr := new_get hs2
  have k2 := new_keep hs2
  have n2 := new_n hs2
  rw [n1] at hgr n2 ⊢
  have hgs : H1.get H.n = some (Sc a c w n l k) := by rw [k2.2 _ (by omega)]; exact hg1
  have kk1 : Keep H H1 := k1.trans k2
  have hB1 : B ≤ H1.n := by omega
  have hv1 : Ints H1 v ts := Row.keep hv kk1
  have hu1 : Ints H1 u ws := Row.keep hu kk1
  repeat' first
    | refine CO.cons rfl ?_
    | refine CO.nil ?_
    | refine CV.seq ?_
    | refine CV.region callees ?_
    | refine CV.cond ?_
    | refine CV.block ?_
    | refine CV.skip ?_
    | refine CV.exit ?_
    | refine CV.ret ?_
    | refine CV.scope ?_
    | refine CV.draw callees rfl ?_
    | refine CH.cons rfl ?_
    | refine CH.nil ?_
    | refine CO.consG rfl ?_
    | refine CH.consG rfl ?_
    | refine CG.cons rfl ?_
    | refine CR.cons ?_
    | refine CR.nil ?_
    | refine CG.nil ?_
    | refine CG.consG rfl ?_
    | refine ⟨(rfl : plain _ = true), ?_⟩
    | refine ⟨(rfl : nilOk _ = some _), ?_⟩
    | refine ⟨_, ints_len (by assumption), ?_⟩
    | refine ⟨_, ints_addr (by assumption) (by omega) (by omega), ?_⟩
    | refine ⟨_, ints_load (by assumption) (by omega) (by omega), ?_⟩
    | refine ⟨(⟨by omega, by omega⟩ : inI64 _), ?_⟩
    | refine ⟨_, fun tm ha => step1_max rfl (ev_tmp ha rfl) (ev_tmp ha rfl), ?_⟩
    | refine ⟨_, fun tm ha => step1_min rfl (ev_tmp ha rfl) (ev_tmp ha rfl), ?_⟩
    | (refine ⟨fun _ => ?_, fun _ => ?_⟩ <;> first | (exfalso; omega) | skip)
    | fail
  refine (heard_spec hB1 hv1 hu1 hl (by omega)).mono ?_
  rintro r H1 ⟨rfl, rfl⟩
  repeat' first
    | refine CO.cons rfl ?_
    | refine CO.nil ?_
    | refine CV.seq ?_
    | refine CV.region callees ?_
    | refine CV.cond ?_
    | refine CV.block ?_
    | refine CV.skip ?_
    | refine CV.exit ?_
    | refine CV.ret ?_
    | refine CV.scope ?_
    | refine CV.draw callees rfl ?_
    | refine CH.cons rfl ?_
    | refine CH.nil ?_
    | refine CO.consG rfl ?_
    | refine CH.consG rfl ?_
    | refine CG.cons rfl ?_
    | refine CR.cons ?_
    | refine CR.nil ?_
    | refine CG.nil ?_
    | refine CG.consG rfl ?_
    | refine ⟨(rfl : plain _ = true), ?_⟩
    | refine ⟨(rfl : nilOk _ = some _), ?_⟩
    | refine ⟨_, ints_len (by assumption), ?_⟩
    | refine ⟨_, ints_addr (by assumption) (by omega) (by omega), ?_⟩
    | refine ⟨_, ints_load (by assumption) (by omega) (by omega), ?_⟩
    | refine ⟨(⟨by omega, by omega⟩ : inI64 _), ?_⟩
    | refine ⟨_, fun tm ha => step1_max rfl (ev_tmp ha rfl) (ev_tmp ha rfl), ?_⟩
    | refine ⟨_, fun tm ha => step1_min rfl (ev_tmp ha rfl) (ev_tmp ha rfl), ?_⟩
    | (refine ⟨fun _ => ?_, fun _ => ?_⟩ <;> first | (exfalso; omega) | skip)
    | fail
  refine (honour_spec hB1 hv1 hu1 ht hl).mono ?_
  rintro r H3 ⟨⟨ho, rfl, hon, ho0, ho3⟩, k3⟩
  have hB3 := Nat.le_trans hB1 k3.1
  repeat' first
    | refine CO.cons rfl ?_
    | refine CO.nil ?_
    | refine CV.seq ?_
    | refine CV.region callees ?_
    | refine CV.cond ?_
    | refine CV.block ?_
    | refine CV.skip ?_
    | refine CV.exit ?_
    | refine CV.ret ?_
    | refine CV.scope ?_
    | refine CV.draw callees rfl ?_
    | refine CH.cons rfl ?_
    | refine CH.nil ?_
    | refine CO.consG rfl ?_
    | refine CH.consG rfl ?_
    | refine CG.cons rfl ?_
    | refine CR.cons ?_
    | refine CR.nil ?_
    | refine CG.nil ?_
    | refine CG.consG rfl ?_
    | refine ⟨(rfl : plain _ = true), ?_⟩
    | refine ⟨(rfl : nilOk _ = some _), ?_⟩
    | refine ⟨_, ints_len (by assumption), ?_⟩
    | refine ⟨_, ints_addr (by assumption) (by omega) (by omega), ?_⟩
    | refine ⟨_, ints_load (by assumption) (by omega) (by omega), ?_⟩
    | refine ⟨(⟨by omega, by omega⟩ : inI64 _), ?_⟩
    | refine ⟨_, fun tm ha => step1_max rfl (ev_tmp ha rfl) (ev_tmp ha rfl), ?_⟩
    | refine ⟨_, fun tm ha => step1_min rfl (ev_tmp ha rfl) (ev_tmp ha rfl), ?_⟩
    | (refine ⟨_, buildX, ?_⟩)
    | (refine ⟨_, _, allocX, ?_⟩)
    | (refine ⟨fun _ => ?_, fun _ => ?_⟩ <;> first | (exfalso; omega) | skip)
    | fail
  generalize hs4 : H3.new (Xc 0 0 0 0 0 0 0 0) = H4
  have hg4 := new_get hs4
  have k4 := new_keep hs4
  obtain ⟨bx, hbx⟩ : ∃ bx, H3.n = bx := ⟨_, rfl⟩
  rw [hbx] at hg4 ⊢
  have n4 := new_n hs4
  have hb1 : H1.n ≤ bx := by rw [← hbx]; exact k3.1
  refine ⟨_, _, storeX hg4, by omega, ?_⟩
  generalize hs5 : H4.set bx (Xc 0 0 0 0 (hdN ts ws ws.length : Int) 0 0 ho) = H5
  have hg5 := set_get hs5
  have kk5 : Keep H1 H5 := keep_put (k3.trans k4) hb1 (set_old hs5) (set_n hs5)
  have hB5 := Nat.le_trans hB1 kk5.1
  have hu5 : Ints H5 u ws := Row.keep hu1 kk5
  repeat' first
    | refine CO.cons rfl ?_
    | refine CO.nil ?_
    | refine CV.seq ?_
    | refine CV.region callees ?_
    | refine CV.cond ?_
    | refine CV.block ?_
    | refine CV.skip ?_
    | refine CV.exit ?_
    | refine CV.ret ?_
    | refine CV.scope ?_
    | refine CV.draw callees rfl ?_
    | refine CH.cons rfl ?_
    | refine CH.nil ?_
    | refine CO.consG rfl ?_
    | refine CH.consG rfl ?_
    | refine CG.cons rfl ?_
    | refine CR.cons ?_
    | refine CR.nil ?_
    | refine CG.nil ?_
    | refine CG.consG rfl ?_
    | refine ⟨(rfl : plain _ = true), ?_⟩
    | refine ⟨(rfl : nilOk _ = some _), ?_⟩
    | refine ⟨_, ints_len (by assumption), ?_⟩
    | refine ⟨_, ints_addr (by assumption) (by omega) (by omega), ?_⟩
    | refine ⟨_, ints_load (by assumption) (by omega) (by omega), ?_⟩
    | refine ⟨(⟨by omega, by omega⟩ : inI64 _), ?_⟩
    | refine ⟨_, fun tm ha => step1_max rfl (ev_tmp ha rfl) (ev_tmp ha rfl), ?_⟩
    | refine ⟨_, fun tm ha => step1_min rfl (ev_tmp ha rfl) (ev_tmp ha rfl), ?_⟩
    | (refine ⟨fun _ => ?_, fun _ => ?_⟩ <;> first | (exfalso; omega) | skip)
    | fail
  refine CV.loopc ?_
  refine WCv.rounds callees false (α := Nat) (fun i => [(3, .pointer (some ⟨H.n, 0, none⟩)), (6, .pointer (some ⟨H.n + 1, 0, none⟩)), (7, .pointer (some ⟨bx, 0, none⟩)), (1, v), (2, u), (19, u), (20, .int .i64 ws.length), (21, .int .i64 i)]) (fun i Hz => i ≤ ws.length ∧ Keep H1 Hz ∧ Hz.get bx = some (Xc 0 (pkN ts ws i : Int) (wrN ts ws i : Int) (prN ts ws i : Int) (hdN ts ws ws.length : Int) 0 (stN ts ws i : Int) ho)) (fun i => ws.length - i) (0) (by repeat' first | exact trivial | refine ⟨rfl, ?_⟩ | refine ⟨slot_int (by (try simp only [Int.toNat_natCast]); omega), ?_⟩) ?_ ?_
  · exact ⟨by omega, kk5, hg5⟩
  rintro i Hx ⟨hi, kx, hgx⟩ hBx
  have hvx : Ints Hx v ts := Row.keep hv1 kx
  have hux : Ints Hx u ws := Row.keep hu1 kx
  have b1 := rw_le ts ws i i
  have b2 := pk_le ts ws i
  have b3 := st_le ts ws i
  have b4 := hd_le ts ws ws.length
  have b5 := pr_le ts ws i (by omega)
  by_cases hi2 : i < ws.length
  · have hxi : ws[(i : Int).toNat]! = ws[i]! := rfl
    repeat' first
      | refine CO.cons rfl ?_
      | refine CO.nil ?_
      | refine CV.seq ?_
      | refine CV.region callees ?_
      | refine CV.cond ?_
      | refine CV.block ?_
      | refine CV.skip ?_
      | refine CV.exit ?_
      | refine CV.ret ?_
      | refine CV.scope ?_
      | refine CV.draw callees rfl ?_
      | refine CH.cons rfl ?_
      | refine CH.nil ?_
      | refine CO.consG rfl ?_
      | refine CH.consG rfl ?_
      | refine CG.cons rfl ?_
      | refine CR.cons ?_
      | refine CR.nil ?_
      | refine CG.nil ?_
      | refine CG.consG rfl ?_
      | refine ⟨(rfl : plain _ = true), ?_⟩
      | refine ⟨(rfl : nilOk _ = some _), ?_⟩
      | refine ⟨_, ints_len (by assumption), ?_⟩
      | refine ⟨_, ints_addr (by assumption) (by omega) (by omega), ?_⟩
      | refine ⟨_, ints_load (by assumption) (by omega) (by omega), ?_⟩
      | refine ⟨(⟨by omega, by omega⟩ : inI64 _), ?_⟩
      | refine ⟨_, fun tm ha => step1_max rfl (ev_tmp ha rfl) (ev_tmp ha rfl), ?_⟩
      | refine ⟨_, fun tm ha => step1_min rfl (ev_tmp ha rfl) (ev_tmp ha rfl), ?_⟩
      | (refine ⟨fun _ => ?_, fun _ => ?_⟩ <;> first | (exfalso; omega) | skip)
      | fail
    rw [hxi]
    refine (written_spec hBx).mono ?_
    rintro r H6 ⟨rfl, rfl⟩
    by_cases hw : ws[i]! = -1
    · have hwt : wrt ws i = false := by rw [wrt_of]; exact decide_eq_false (fun h => h hw)
      have e1 : pkN ts ws (i + 1) = pkN ts ws i := by rw [pkN, hwt]; simp
      have e2 : wrN ts ws (i + 1) = wrN ts ws i := by rw [wrN, hwt]; simp
      have e3 : prN ts ws (i + 1) = prN ts ws i := by rw [prN, hwt]; simp
      have e4 : stN ts ws (i + 1) = stN ts ws i := by rw [stN, hwt]; simp
      rw [decide_eq_false (fun h => h hw)]
      repeat' first
        | refine CO.cons rfl ?_
        | refine CO.nil ?_
        | refine CV.seq ?_
        | refine CV.region callees ?_
        | refine CV.cond ?_
        | refine CV.block ?_
        | refine CV.skip ?_
        | refine CV.exit ?_
        | refine CV.ret ?_
        | refine CV.scope ?_
        | refine CV.draw callees rfl ?_
        | refine CH.cons rfl ?_
        | refine CH.nil ?_
        | refine CO.consG rfl ?_
        | refine CH.consG rfl ?_
        | refine CG.cons rfl ?_
        | refine CR.cons ?_
        | refine CR.nil ?_
        | refine CG.nil ?_
        | refine CG.consG rfl ?_
        | refine ⟨(rfl : plain _ = true), ?_⟩
        | refine ⟨(rfl : nilOk _ = some _), ?_⟩
        | refine ⟨_, ints_len (by assumption), ?_⟩
        | refine ⟨_, ints_addr (by assumption) (by omega) (by omega), ?_⟩
        | refine ⟨_, ints_load (by assumption) (by omega) (by omega), ?_⟩
        | refine ⟨(⟨by omega, by omega⟩ : inI64 _), ?_⟩
        | refine ⟨_, fun tm ha => step1_max rfl (ev_tmp ha rfl) (ev_tmp ha rfl), ?_⟩
        | refine ⟨_, fun tm ha => step1_min rfl (ev_tmp ha rfl) (ev_tmp ha rfl), ?_⟩
        | (refine ⟨fun _ => ?_, fun _ => ?_⟩ <;> first | (exfalso; omega) | skip)
        | fail
      refine ⟨(i + 1), (by repeat' first | exact trivial | refine ⟨rfl, ?_⟩ | refine ⟨slot_int (by (try simp only [Int.toNat_natCast]); omega), ?_⟩), (by (try dsimp only); omega), ?_⟩
      exact ⟨by omega, kx, by rw [e1, e2, e3, e4]; exact hgx⟩
    have hwt : wrt ws i = true := by rw [wrt_of]; exact decide_eq_true hw
    rw [decide_eq_true hw]
    repeat' first
      | refine CO.cons rfl ?_
      | refine CO.nil ?_
      | refine CV.seq ?_
      | refine CV.region callees ?_
      | refine CV.cond ?_
      | refine CV.block ?_
      | refine CV.skip ?_
      | refine CV.exit ?_
      | refine CV.ret ?_
      | refine CV.scope ?_
      | refine CV.draw callees rfl ?_
      | refine CH.cons rfl ?_
      | refine CH.nil ?_
      | refine CO.consG rfl ?_
      | refine CH.consG rfl ?_
      | refine CG.cons rfl ?_
      | refine CR.cons ?_
      | refine CR.nil ?_
      | refine CG.nil ?_
      | refine CG.consG rfl ?_
      | refine ⟨(rfl : plain _ = true), ?_⟩
      | refine ⟨(rfl : nilOk _ = some _), ?_⟩
      | refine ⟨_, ints_len (by assumption), ?_⟩
      | refine ⟨_, ints_addr (by assumption) (by omega) (by omega), ?_⟩
      | refine ⟨_, ints_load (by assumption) (by omega) (by omega), ?_⟩
      | refine ⟨(⟨by omega, by omega⟩ : inI64 _), ?_⟩
      | refine ⟨_, fun tm ha => step1_max rfl (ev_tmp ha rfl) (ev_tmp ha rfl), ?_⟩
      | refine ⟨_, fun tm ha => step1_min rfl (ev_tmp ha rfl) (ev_tmp ha rfl), ?_⟩
      | (refine ⟨fun _ => ?_, fun _ => ?_⟩ <;> first | (exfalso; omega) | skip)
      | fail
    refine (pairs_spec hBx hvx hux hl (by omega) hi2).mono ?_
    rintro r H7 ⟨rfl, rfl⟩
    have e3 : prN ts ws (i + 1) = prN ts ws i + rtN ts ws i i := by rw [prN, hwt]; simp
    repeat' first
      | refine CO.cons rfl ?_
      | refine CO.nil ?_
      | refine CV.seq ?_
      | refine CV.region callees ?_
      | refine CV.cond ?_
      | refine CV.block ?_
      | refine CV.skip ?_
      | refine CV.exit ?_
      | refine CV.ret ?_
      | refine CV.scope ?_
      | refine CV.draw callees rfl ?_
      | refine CH.cons rfl ?_
      | refine CH.nil ?_
      | refine CO.consG rfl ?_
      | refine CH.consG rfl ?_
      | refine CG.cons rfl ?_
      | refine CR.cons ?_
      | refine CR.nil ?_
      | refine CG.nil ?_
      | refine CG.consG rfl ?_
      | refine ⟨(rfl : plain _ = true), ?_⟩
      | refine ⟨(rfl : nilOk _ = some _), ?_⟩
      | refine ⟨_, ints_len (by assumption), ?_⟩
      | refine ⟨_, ints_addr (by assumption) (by omega) (by omega), ?_⟩
      | refine ⟨_, ints_load (by assumption) (by omega) (by omega), ?_⟩
      | refine ⟨(⟨by omega, by omega⟩ : inI64 _), ?_⟩
      | refine ⟨_, fun tm ha => step1_max rfl (ev_tmp ha rfl) (ev_tmp ha rfl), ?_⟩
      | refine ⟨_, fun tm ha => step1_min rfl (ev_tmp ha rfl) (ev_tmp ha rfl), ?_⟩
      | (refine ⟨_, addrX (by decide), ?_⟩)
      | (refine ⟨_, cell_load ag3 hgx rfl, ?_⟩)
      | (refine putX (by omega) hgx (Nat.le_of_ble_eq_true rfl) ?_)
      | (refine ⟨fun _ => ?_, fun _ => ?_⟩ <;> first | (exfalso; omega) | skip)
      | fail
    intro Hp hgp hop hnp
    have kp := keep_put kx hb1 hop hnp
    have hBp : B ≤ Hp.n := by omega
    replace hgp : Hp.get bx = some (Xc 0 (pkN ts ws i : Int) (wrN ts ws i : Int) (prN ts ws (i + 1) : Int) (hdN ts ws ws.length : Int) 0 (stN ts ws i : Int) ho) := by rw [e3, Int.natCast_add]; exact hgp
    by_cases hwg : wgN ts ws i i = 0
    · have e1 : pkN ts ws (i + 1) = pkN ts ws i + 1 := by rw [pkN, hwt, hwg]; simp
      have e2 : wrN ts ws (i + 1) = wrN ts ws i := by rw [wrN, hwt, hwg]; simp
      repeat' first
        | refine CO.cons rfl ?_
        | refine CO.nil ?_
        | refine CV.seq ?_
        | refine CV.region callees ?_
        | refine CV.cond ?_
        | refine CV.block ?_
        | refine CV.skip ?_
        | refine CV.exit ?_
        | refine CV.ret ?_
        | refine CV.scope ?_
        | refine CV.draw callees rfl ?_
        | refine CH.cons rfl ?_
        | refine CH.nil ?_
        | refine CO.consG rfl ?_
        | refine CH.consG rfl ?_
        | refine CG.cons rfl ?_
        | refine CR.cons ?_
        | refine CR.nil ?_
        | refine CG.nil ?_
        | refine CG.consG rfl ?_
        | refine ⟨(rfl : plain _ = true), ?_⟩
        | refine ⟨(rfl : nilOk _ = some _), ?_⟩
        | refine ⟨_, ints_len (by assumption), ?_⟩
        | refine ⟨_, ints_addr (by assumption) (by omega) (by omega), ?_⟩
        | refine ⟨_, ints_load (by assumption) (by omega) (by omega), ?_⟩
        | refine ⟨(⟨by omega, by omega⟩ : inI64 _), ?_⟩
        | refine ⟨_, fun tm ha => step1_max rfl (ev_tmp ha rfl) (ev_tmp ha rfl), ?_⟩
        | refine ⟨_, fun tm ha => step1_min rfl (ev_tmp ha rfl) (ev_tmp ha rfl), ?_⟩
        | (refine ⟨_, addrX (by decide), ?_⟩)
        | (refine ⟨_, cell_load ag3 hgp rfl, ?_⟩)
        | (refine putX (by omega) hgp (Nat.le_of_ble_eq_true rfl) ?_)
        | (refine ⟨fun _ => ?_, fun _ => ?_⟩ <;> first | (exfalso; omega) | skip)
        | fail
      intro Hq hgq hoq hnq
      have kq := keep_put kp hb1 hoq hnq
      replace hgq : Hq.get bx = some (Xc 0 (pkN ts ws (i + 1) : Int) (wrN ts ws i : Int) (prN ts ws (i + 1) : Int) (hdN ts ws ws.length : Int) 0 (stN ts ws i : Int) ho) := by rw [e1, Int.natCast_add]; exact hgq
      by_cases hst : stN ts ws i = i
      · have e4 : stN ts ws (i + 1) = stN ts ws i + 1 := by rw [stN, hwt, hwg]; simp [hst]
        repeat' first
          | refine CO.cons rfl ?_
          | refine CO.nil ?_
          | refine CV.seq ?_
          | refine CV.region callees ?_
          | refine CV.cond ?_
          | refine CV.block ?_
          | refine CV.skip ?_
          | refine CV.exit ?_
          | refine CV.ret ?_
          | refine CV.scope ?_
          | refine CV.draw callees rfl ?_
          | refine CH.cons rfl ?_
          | refine CH.nil ?_
          | refine CO.consG rfl ?_
          | refine CH.consG rfl ?_
          | refine CG.cons rfl ?_
          | refine CR.cons ?_
          | refine CR.nil ?_
          | refine CG.nil ?_
          | refine CG.consG rfl ?_
          | refine ⟨(rfl : plain _ = true), ?_⟩
          | refine ⟨(rfl : nilOk _ = some _), ?_⟩
          | refine ⟨_, ints_len (by assumption), ?_⟩
          | refine ⟨_, ints_addr (by assumption) (by omega) (by omega), ?_⟩
          | refine ⟨_, ints_load (by assumption) (by omega) (by omega), ?_⟩
          | refine ⟨(⟨by omega, by omega⟩ : inI64 _), ?_⟩
          | refine ⟨_, fun tm ha => step1_max rfl (ev_tmp ha rfl) (ev_tmp ha rfl), ?_⟩
          | refine ⟨_, fun tm ha => step1_min rfl (ev_tmp ha rfl) (ev_tmp ha rfl), ?_⟩
          | (refine ⟨_, addrX (by decide), ?_⟩)
          | (refine ⟨_, cell_load ag3 hgq rfl, ?_⟩)
          | (refine putX (by omega) hgq (Nat.le_of_ble_eq_true rfl) ?_)
          | (refine ⟨fun _ => ?_, fun _ => ?_⟩ <;> first | (exfalso; omega) | skip)
          | fail
        intro Ht hgt hot hnt
        have kt := keep_put kq hb1 hot hnt
        repeat' first
          | refine CO.cons rfl ?_
          | refine CO.nil ?_
          | refine CV.seq ?_
          | refine CV.region callees ?_
          | refine CV.cond ?_
          | refine CV.block ?_
          | refine CV.skip ?_
          | refine CV.exit ?_
          | refine CV.ret ?_
          | refine CV.scope ?_
          | refine CV.draw callees rfl ?_
          | refine CH.cons rfl ?_
          | refine CH.nil ?_
          | refine CO.consG rfl ?_
          | refine CH.consG rfl ?_
          | refine CG.cons rfl ?_
          | refine CR.cons ?_
          | refine CR.nil ?_
          | refine CG.nil ?_
          | refine CG.consG rfl ?_
          | refine ⟨(rfl : plain _ = true), ?_⟩
          | refine ⟨(rfl : nilOk _ = some _), ?_⟩
          | refine ⟨_, ints_len (by assumption), ?_⟩
          | refine ⟨_, ints_addr (by assumption) (by omega) (by omega), ?_⟩
          | refine ⟨_, ints_load (by assumption) (by omega) (by omega), ?_⟩
          | refine ⟨(⟨by omega, by omega⟩ : inI64 _), ?_⟩
          | refine ⟨_, fun tm ha => step1_max rfl (ev_tmp ha rfl) (ev_tmp ha rfl), ?_⟩
          | refine ⟨_, fun tm ha => step1_min rfl (ev_tmp ha rfl) (ev_tmp ha rfl), ?_⟩
          | (refine ⟨fun _ => ?_, fun _ => ?_⟩ <;> first | (exfalso; omega) | skip)
          | fail
        refine ⟨(i + 1), (by repeat' first | exact trivial | refine ⟨rfl, ?_⟩ | refine ⟨slot_int (by (try simp only [Int.toNat_natCast]); omega), ?_⟩), (by (try dsimp only); omega), ?_⟩
        exact ⟨by omega, kt, by rw [e2, e4, Int.natCast_add]; exact hgt⟩
      · have e4 : stN ts ws (i + 1) = stN ts ws i := by rw [stN, hwt, hwg]; simp [hst]
        repeat' first
          | refine CO.cons rfl ?_
          | refine CO.nil ?_
          | refine CV.seq ?_
          | refine CV.region callees ?_
          | refine CV.cond ?_
          | refine CV.block ?_
          | refine CV.skip ?_
          | refine CV.exit ?_
          | refine CV.ret ?_
          | refine CV.scope ?_
          | refine CV.draw callees rfl ?_
          | refine CH.cons rfl ?_
          | refine CH.nil ?_
          | refine CO.consG rfl ?_
          | refine CH.consG rfl ?_
          | refine CG.cons rfl ?_
          | refine CR.cons ?_
          | refine CR.nil ?_
          | refine CG.nil ?_
          | refine CG.consG rfl ?_
          | refine ⟨(rfl : plain _ = true), ?_⟩
          | refine ⟨(rfl : nilOk _ = some _), ?_⟩
          | refine ⟨_, ints_len (by assumption), ?_⟩
          | refine ⟨_, ints_addr (by assumption) (by omega) (by omega), ?_⟩
          | refine ⟨_, ints_load (by assumption) (by omega) (by omega), ?_⟩
          | refine ⟨(⟨by omega, by omega⟩ : inI64 _), ?_⟩
          | refine ⟨_, fun tm ha => step1_max rfl (ev_tmp ha rfl) (ev_tmp ha rfl), ?_⟩
          | refine ⟨_, fun tm ha => step1_min rfl (ev_tmp ha rfl) (ev_tmp ha rfl), ?_⟩
          | (refine ⟨_, addrX (by decide), ?_⟩)
          | (refine ⟨_, cell_load ag3 hgq rfl, ?_⟩)
          | (refine ⟨fun _ => ?_, fun _ => ?_⟩ <;> first | (exfalso; omega) | skip)
          | fail
        refine ⟨(i + 1), (by repeat' first | exact trivial | refine ⟨rfl, ?_⟩ | refine ⟨slot_int (by (try simp only [Int.toNat_natCast]); omega), ?_⟩), (by (try dsimp only); omega), ?_⟩
        exact ⟨by omega, kq, by rw [e2, e4]; exact hgq⟩
    · have e1 : pkN ts ws (i + 1) = pkN ts ws i := by rw [pkN, hwt]; simp [hwg]
      have e2 : wrN ts ws (i + 1) = wrN ts ws i + 1 := by rw [wrN, hwt]; simp [hwg]
      have e4 : stN ts ws (i + 1) = stN ts ws i := by rw [stN, hwt]; simp [hwg]
      repeat' first
        | refine CO.cons rfl ?_
        | refine CO.nil ?_
        | refine CV.seq ?_
        | refine CV.region callees ?_
        | refine CV.cond ?_
        | refine CV.block ?_
        | refine CV.skip ?_
        | refine CV.exit ?_
        | refine CV.ret ?_
        | refine CV.scope ?_
        | refine CV.draw callees rfl ?_
        | refine CH.cons rfl ?_
        | refine CH.nil ?_
        | refine CO.consG rfl ?_
        | refine CH.consG rfl ?_
        | refine CG.cons rfl ?_
        | refine CR.cons ?_
        | refine CR.nil ?_
        | refine CG.nil ?_
        | refine CG.consG rfl ?_
        | refine ⟨(rfl : plain _ = true), ?_⟩
        | refine ⟨(rfl : nilOk _ = some _), ?_⟩
        | refine ⟨_, ints_len (by assumption), ?_⟩
        | refine ⟨_, ints_addr (by assumption) (by omega) (by omega), ?_⟩
        | refine ⟨_, ints_load (by assumption) (by omega) (by omega), ?_⟩
        | refine ⟨(⟨by omega, by omega⟩ : inI64 _), ?_⟩
        | refine ⟨_, fun tm ha => step1_max rfl (ev_tmp ha rfl) (ev_tmp ha rfl), ?_⟩
        | refine ⟨_, fun tm ha => step1_min rfl (ev_tmp ha rfl) (ev_tmp ha rfl), ?_⟩
        | (refine ⟨_, addrX (by decide), ?_⟩)
        | (refine ⟨_, cell_load ag3 hgp rfl, ?_⟩)
        | (refine putX (by omega) hgp (Nat.le_of_ble_eq_true rfl) ?_)
        | (refine ⟨fun _ => ?_, fun _ => ?_⟩ <;> first | (exfalso; omega) | skip)
        | fail
      intro Hq hgq hoq hnq
      have kq := keep_put kp hb1 hoq hnq
      repeat' first
        | refine CO.cons rfl ?_
        | refine CO.nil ?_
        | refine CV.seq ?_
        | refine CV.region callees ?_
        | refine CV.cond ?_
        | refine CV.block ?_
        | refine CV.skip ?_
        | refine CV.exit ?_
        | refine CV.ret ?_
        | refine CV.scope ?_
        | refine CV.draw callees rfl ?_
        | refine CH.cons rfl ?_
        | refine CH.nil ?_
        | refine CO.consG rfl ?_
        | refine CH.consG rfl ?_
        | refine CG.cons rfl ?_
        | refine CR.cons ?_
        | refine CR.nil ?_
        | refine CG.nil ?_
        | refine CG.consG rfl ?_
        | refine ⟨(rfl : plain _ = true), ?_⟩
        | refine ⟨(rfl : nilOk _ = some _), ?_⟩
        | refine ⟨_, ints_len (by assumption), ?_⟩
        | refine ⟨_, ints_addr (by assumption) (by omega) (by omega), ?_⟩
        | refine ⟨_, ints_load (by assumption) (by omega) (by omega), ?_⟩
        | refine ⟨(⟨by omega, by omega⟩ : inI64 _), ?_⟩
        | refine ⟨_, fun tm ha => step1_max rfl (ev_tmp ha rfl) (ev_tmp ha rfl), ?_⟩
        | refine ⟨_, fun tm ha => step1_min rfl (ev_tmp ha rfl) (ev_tmp ha rfl), ?_⟩
        | (refine ⟨fun _ => ?_, fun _ => ?_⟩ <;> first | (exfalso; omega) | skip)
        | fail
      refine ⟨(i + 1), (by repeat' first | exact trivial | refine ⟨rfl, ?_⟩ | refine ⟨slot_int (by (try simp only [Int.toNat_natCast]); omega), ?_⟩), (by (try dsimp only); omega), ?_⟩
      exact ⟨by omega, kq, by rw [e1, e2, e4, Int.natCast_add]; exact hgq⟩
  have hil : i = ws.length := by omega
  subst hil
  have hgsx : Hx.get H.n = some (Sc a c w n l k) := by rw [kx.2 _ (by omega)]; exact hgs
  have hgrx : Hx.get (H.n + 1) = some (Xc 0 0 0 0 0 0 0 0) := by rw [kx.2 _ (by omega)]; exact hgr
  obtain ⟨pa, pc, pw, pn, pl⟩ := hp
  have m1 := mulB (k := pkN ts ws ws.length) (m := 9) pa.1 pa.2 (by omega)
  have m2 := mulB (k := prN ts ws ws.length) (m := 81) pc.1 pc.2 (by omega)
  have m3 := mulB (k := hdN ts ws ws.length) (m := 9) pn.1 pn.2 (by omega)
  have m5 := mulB (k := wrN ts ws ws.length) (m := 9) pl.1 pl.2 (by omega)
  by_cases hwh : pkN ts ws ws.length = ws.length
  · have ew : whN ts ws = 1 := by rw [whN, if_pos hwh]
    repeat' first
      | refine CO.cons rfl ?_
      | refine CO.nil ?_
      | refine CV.seq ?_
      | refine CV.region callees ?_
      | refine CV.cond ?_
      | refine CV.block ?_
      | refine CV.skip ?_
      | refine CV.exit ?_
      | refine CV.ret ?_
      | refine CV.scope ?_
      | refine CV.draw callees rfl ?_
      | refine CH.cons rfl ?_
      | refine CH.nil ?_
      | refine CO.consG rfl ?_
      | refine CH.consG rfl ?_
      | refine CG.cons rfl ?_
      | refine CR.cons ?_
      | refine CR.nil ?_
      | refine CG.nil ?_
      | refine CG.consG rfl ?_
      | refine ⟨(rfl : plain _ = true), ?_⟩
      | refine ⟨(rfl : nilOk _ = some _), ?_⟩
      | refine ⟨_, ints_len (by assumption), ?_⟩
      | refine ⟨_, ints_addr (by assumption) (by omega) (by omega), ?_⟩
      | refine ⟨_, ints_load (by assumption) (by omega) (by omega), ?_⟩
      | refine ⟨(⟨by omega, by omega⟩ : inI64 _), ?_⟩
      | refine ⟨_, fun tm ha => step1_max rfl (ev_tmp ha rfl) (ev_tmp ha rfl), ?_⟩
      | refine ⟨_, fun tm ha => step1_min rfl (ev_tmp ha rfl) (ev_tmp ha rfl), ?_⟩
      | (refine ⟨_, addrX (by decide), ?_⟩)
      | (refine ⟨_, cell_load ag3 hgx rfl, ?_⟩)
      | (refine putX (by omega) hgx (Nat.le_of_ble_eq_true rfl) ?_)
      | (refine ⟨fun _ => ?_, fun _ => ?_⟩ <;> first | (exfalso; omega) | skip)
      | fail
    intro Hp hgp hop hnp
    have kp := keep_put kx hb1 hop hnp
    have hgsp : Hp.get H.n = some (Sc a c w n l k) := by rw [hop _ (by omega)]; exact hgsx
    have hgrp : Hp.get (H.n + 1) = some (Xc 0 0 0 0 0 0 0 0) := by rw [hop _ (by omega)]; exact hgrx
    repeat' first
      | refine CO.cons rfl ?_
      | refine CO.nil ?_
      | refine CV.seq ?_
      | refine CV.region callees ?_
      | refine CV.cond ?_
      | refine CV.block ?_
      | refine CV.skip ?_
      | refine CV.exit ?_
      | refine CV.ret ?_
      | refine CV.scope ?_
      | refine CV.draw callees rfl ?_
      | refine CH.cons rfl ?_
      | refine CH.nil ?_
      | refine CO.consG rfl ?_
      | refine CH.consG rfl ?_
      | refine CG.cons rfl ?_
      | refine CR.cons ?_
      | refine CR.nil ?_
      | refine CG.nil ?_
      | refine CG.consG rfl ?_
      | refine ⟨(rfl : plain _ = true), ?_⟩
      | refine ⟨(rfl : nilOk _ = some _), ?_⟩
      | refine ⟨_, ints_len (by assumption), ?_⟩
      | refine ⟨_, ints_addr (by assumption) (by omega) (by omega), ?_⟩
      | refine ⟨_, ints_load (by assumption) (by omega) (by omega), ?_⟩
      | refine ⟨(⟨by omega, by omega⟩ : inI64 _), ?_⟩
      | refine ⟨_, fun tm ha => step1_max rfl (ev_tmp ha rfl) (ev_tmp ha rfl), ?_⟩
      | refine ⟨_, fun tm ha => step1_min rfl (ev_tmp ha rfl) (ev_tmp ha rfl), ?_⟩
      | (refine ⟨_, addrS (by decide), ?_⟩)
      | (refine ⟨_, addrX (by decide), ?_⟩)
      | (refine ⟨_, cell_load ag3 hgsp rfl, ?_⟩)
      | (refine ⟨_, cell_load ag3 hgp rfl, ?_⟩)
      | (refine putX (by omega) hgp (Nat.le_of_ble_eq_true rfl) ?_)
      | (refine ⟨fun _ => ?_, fun _ => ?_⟩ <;> first | (exfalso; omega) | skip)
      | fail
    intro Hq hgq hoq hnq
    have kq := keep_put kp hb1 hoq hnq
    have hgrq : Hq.get (H.n + 1) = some (Xc 0 0 0 0 0 0 0 0) := by rw [hoq _ (by omega)]; exact hgrp
    repeat' first
      | refine CO.cons rfl ?_
      | refine CO.nil ?_
      | refine CV.seq ?_
      | refine CV.region callees ?_
      | refine CV.cond ?_
      | refine CV.block ?_
      | refine CV.skip ?_
      | refine CV.exit ?_
      | refine CV.ret ?_
      | refine CV.scope ?_
      | refine CV.draw callees rfl ?_
      | refine CH.cons rfl ?_
      | refine CH.nil ?_
      | refine CO.consG rfl ?_
      | refine CH.consG rfl ?_
      | refine CG.cons rfl ?_
      | refine CR.cons ?_
      | refine CR.nil ?_
      | refine CG.nil ?_
      | refine CG.consG rfl ?_
      | refine ⟨(rfl : plain _ = true), ?_⟩
      | refine ⟨(rfl : nilOk _ = some _), ?_⟩
      | refine ⟨_, ints_len (by assumption), ?_⟩
      | refine ⟨_, ints_addr (by assumption) (by omega) (by omega), ?_⟩
      | refine ⟨_, ints_load (by assumption) (by omega) (by omega), ?_⟩
      | refine ⟨(⟨by omega, by omega⟩ : inI64 _), ?_⟩
      | refine ⟨_, fun tm ha => step1_max rfl (ev_tmp ha rfl) (ev_tmp ha rfl), ?_⟩
      | refine ⟨_, fun tm ha => step1_min rfl (ev_tmp ha rfl) (ev_tmp ha rfl), ?_⟩
      | (refine ⟨_, loadX hgq, ?_⟩)
      | (refine ⟨_, _, storeX hgrq, by omega, ?_⟩)
      | (refine ⟨fun _ => ?_, fun _ => ?_⟩ <;> first | (exfalso; omega) | skip)
      | fail
    refine ⟨_, loadX (Heap.get_set_eq _ _ _), rfl, ⟨ho, ?_, hon, ho0, ho3⟩, keep_put (kk1.trans kq) (by omega) (fun d hd => Heap.get_set_ne _ _ (Ne.symm hd)) rfl⟩
    rw [XM, ptsN, ew]; rfl
  · have ew : whN ts ws = 0 := by rw [whN, if_neg hwh]
    repeat' first
      | refine CO.cons rfl ?_
      | refine CO.nil ?_
      | refine CV.seq ?_
      | refine CV.region callees ?_
      | refine CV.cond ?_
      | refine CV.block ?_
      | refine CV.skip ?_
      | refine CV.exit ?_
      | refine CV.ret ?_
      | refine CV.scope ?_
      | refine CV.draw callees rfl ?_
      | refine CH.cons rfl ?_
      | refine CH.nil ?_
      | refine CO.consG rfl ?_
      | refine CH.consG rfl ?_
      | refine CG.cons rfl ?_
      | refine CR.cons ?_
      | refine CR.nil ?_
      | refine CG.nil ?_
      | refine CG.consG rfl ?_
      | refine ⟨(rfl : plain _ = true), ?_⟩
      | refine ⟨(rfl : nilOk _ = some _), ?_⟩
      | refine ⟨_, ints_len (by assumption), ?_⟩
      | refine ⟨_, ints_addr (by assumption) (by omega) (by omega), ?_⟩
      | refine ⟨_, ints_load (by assumption) (by omega) (by omega), ?_⟩
      | refine ⟨(⟨by omega, by omega⟩ : inI64 _), ?_⟩
      | refine ⟨_, fun tm ha => step1_max rfl (ev_tmp ha rfl) (ev_tmp ha rfl), ?_⟩
      | refine ⟨_, fun tm ha => step1_min rfl (ev_tmp ha rfl) (ev_tmp ha rfl), ?_⟩
      | (refine ⟨_, addrX (by decide), ?_⟩)
      | (refine ⟨_, addrS (by decide), ?_⟩)
      | (refine ⟨_, cell_load ag3 hgsx rfl, ?_⟩)
      | (refine ⟨_, cell_load ag3 hgx rfl, ?_⟩)
      | (refine putX (by omega) hgx (Nat.le_of_ble_eq_true rfl) ?_)
      | (refine ⟨fun _ => ?_, fun _ => ?_⟩ <;> first | (exfalso; omega) | skip)
      | fail
    intro Hq hgq hoq hnq
    have kq := keep_put kx hb1 hoq hnq
    have hgrq : Hq.get (H.n + 1) = some (Xc 0 0 0 0 0 0 0 0) := by rw [hoq _ (by omega)]; exact hgrx
    repeat' first
      | refine CO.cons rfl ?_
      | refine CO.nil ?_
      | refine CV.seq ?_
      | refine CV.region callees ?_
      | refine CV.cond ?_
      | refine CV.block ?_
      | refine CV.skip ?_
      | refine CV.exit ?_
      | refine CV.ret ?_
      | refine CV.scope ?_
      | refine CV.draw callees rfl ?_
      | refine CH.cons rfl ?_
      | refine CH.nil ?_
      | refine CO.consG rfl ?_
      | refine CH.consG rfl ?_
      | refine CG.cons rfl ?_
      | refine CR.cons ?_
      | refine CR.nil ?_
      | refine CG.nil ?_
      | refine CG.consG rfl ?_
      | refine ⟨(rfl : plain _ = true), ?_⟩
      | refine ⟨(rfl : nilOk _ = some _), ?_⟩
      | refine ⟨_, ints_len (by assumption), ?_⟩
      | refine ⟨_, ints_addr (by assumption) (by omega) (by omega), ?_⟩
      | refine ⟨_, ints_load (by assumption) (by omega) (by omega), ?_⟩
      | refine ⟨(⟨by omega, by omega⟩ : inI64 _), ?_⟩
      | refine ⟨_, fun tm ha => step1_max rfl (ev_tmp ha rfl) (ev_tmp ha rfl), ?_⟩
      | refine ⟨_, fun tm ha => step1_min rfl (ev_tmp ha rfl) (ev_tmp ha rfl), ?_⟩
      | (refine ⟨_, loadX hgq, ?_⟩)
      | (refine ⟨_, _, storeX hgrq, by omega, ?_⟩)
      | (refine ⟨fun _ => ?_, fun _ => ?_⟩ <;> first | (exfalso; omega) | skip)
      | fail
    refine ⟨_, loadX (Heap.get_set_eq _ _ _), rfl, ⟨ho, ?_, hon, ho0, ho3⟩, keep_put (kk1.trans kq) (by omega) (fun d hd => Heap.get_set_ne _ _ (Ne.symm hd)) rfl⟩
    rw [XM, ptsN, ew]; rfl
end Go.Proofs.Ytcpklnekpdhlmaa
