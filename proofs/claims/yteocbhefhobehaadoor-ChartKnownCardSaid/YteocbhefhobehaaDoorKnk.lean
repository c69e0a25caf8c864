/- ChartKnown: its function answers true. -/
import Derived.Test.YteocbhefhobehaaDoorB8k
import Derived.Test.YteocbhefhobehaaDoorX4
set_option linter.unusedVariables false
set_option linter.unusedSimpArgs false
namespace Go.Proofs.YteocbhefhobehaaDoor
open Go.AI
theorem unK5 : Tryd.prog.underlying 5 = some (.int .u8) := by kernel_rfl
theorem unK41 : Tryd.prog.underlying 41 = some (.slice 22) := by kernel_rfl
theorem oneK22 : oneBB Tryd.prog 22 = some (.slice none 0 0, 24) := by kernel_rfl
theorem szK22 : sizeB Tryd.prog 22 = some 1 := by kernel_rfl
theorem agK22 : isAggB Tryd.prog 22 = some false := by kernel_rfl
theorem unK63 : Tryd.prog.underlying 63 = some (.slice 32) := by kernel_rfl
theorem oneK32 : oneBB Tryd.prog 32 = some (.int .i64 0, 8) := by kernel_rfl
theorem szK32 : sizeB Tryd.prog 32 = some 1 := by kernel_rfl
theorem agK32 : isAggB Tryd.prog 32 = some false := by kernel_rfl
theorem unK9 : Tryd.prog.underlying 9 = some .string := by kernel_rfl
abbrev word4 : Value := .string ⟨#[65, 66, 65, 67]⟩
theorem ix0 : aindex Tryd.prog 9 word4 (.int .i64 0) = some (.int .u8 65) := by kernel_rfl
theorem ix1 : aindex Tryd.prog 9 word4 (.int .i64 1) = some (.int .u8 66) := by kernel_rfl
theorem ix2 : aindex Tryd.prog 9 word4 (.int .i64 2) = some (.int .u8 65) := by kernel_rfl
theorem ix3 : aindex Tryd.prog 9 word4 (.int .i64 3) = some (.int .u8 67) := by kernel_rfl
theorem len4 {H : Heap} : alen Tryd.prog H 9 word4 = some (.int .i64 4) := by kernel_rfl
set_option maxHeartbeats 1000000 in
set_option maxRecDepth 100000 in
theorem word_spec {B : Nat} {H : Heap} (hB : B ≤ H.n) :
    CallB Tryd.prog B 67 [word4] H (fun r H' => Own 3 H' r (([0, 1, 0, 2] : List Int).map VI) H.n ∧ Keep H H') := by
  refine CV.enter callees false rfl Tryd.func67 rfl ok67 (Nat.le_of_ble_eq_true rfl) hB ?_
  repeat' first
    | refine CO.cons rfl ?_
    | refine CO.nil ?_
    | refine CV.seq ?_
    | refine CV.region callees ?_
    | refine CV.cond ?_
    | refine CV.block ?_
    | refine CV.skip ?_
    | refine CV.exit ?_
    | refine CV.ret ?_
    | refine CV.scope ?_
    | refine CV.draw callees rfl ?_
    | refine CH.cons rfl ?_
    | refine CH.nil ?_
    | refine CO.consG rfl ?_
    | refine CH.consG rfl ?_
    | refine CG.cons rfl ?_
    | refine CG.nil ?_
    | refine CG.consG rfl ?_
    | refine ⟨(rfl : plain _ = true), ?_⟩
    | refine ⟨(rfl : nilOk _ = some _), ?_⟩
    | refine ⟨_, ints_len (by assumption), ?_⟩
    | refine ⟨_, ints_addr (by assumption) (by omega) (by omega), ?_⟩
    | refine ⟨_, ints_load (by assumption) (by omega) (by omega), ?_⟩
    | refine ⟨(⟨by omega, by omega⟩ : inI64 _), ?_⟩
    | refine ⟨_, fun tm ha => step1_max rfl (ev_tmp ha rfl) (ev_tmp ha rfl), ?_⟩
    | refine ⟨_, fun tm ha => step1_min rfl (ev_tmp ha rfl) (ev_tmp ha rfl), ?_⟩
    | (refine ⟨fun _ => ?_, fun _ => ?_⟩ <;> first | (exfalso; omega) | skip)
    | fail
  refine CV.loopc ?_
  refine WCv.rounds callees false (α := Nat × Value) (fun (i, o) => [(0, word4), (3, o), (4, .int .i64 i)]) (fun (i, o) Hz => i ≤ 4 ∧ Own 3 Hz o ((([0, 1, 0, 2] : List Int).take i).map VI) H.n ∧ Keep H Hz) (fun (i, o) => 4 - i) (0, .slice none 0 0) (by repeat' first | exact trivial | refine ⟨rfl, ?_⟩ | refine ⟨slot_int (by (try simp only [Int.toNat_natCast]); omega), ?_⟩) ?_ ?_
  · exact ⟨by omega, .inl ⟨rfl, rfl⟩, Keep.refl _⟩
  rintro ⟨i, o⟩ Hx ⟨hi, ho, kx⟩ hBx
  by_cases hi2 : i < 4
  · obtain ⟨x, y, hx, hw, hy⟩ : ∃ x y : Int, aindex Tryd.prog 9 word4 (.int .i64 i) = some (.int .u8 x) ∧ IntKind.wrap .i64 (IntKind.wrap .u8 (x - 65)) = y ∧ ([0, 1, 0, 2] : List Int).take (i + 1) = ([0, 1, 0, 2] : List Int).take i ++ [y] := by
      obtain rfl | rfl | rfl | rfl : i = 0 ∨ i = 1 ∨ i = 2 ∨ i = 3 := by omega
      · exact ⟨_, _, ix0, rfl, by decide⟩
      · exact ⟨_, _, ix1, rfl, by decide⟩
      · exact ⟨_, _, ix2, rfl, by decide⟩
      · exact ⟨_, _, ix3, rfl, by decide⟩
    repeat' first
      | refine CO.cons rfl ?_
      | refine CO.nil ?_
      | refine CV.seq ?_
      | refine CV.region callees ?_
      | refine CV.cond ?_
      | refine CV.block ?_
      | refine CV.skip ?_
      | refine CV.exit ?_
      | refine CV.ret ?_
      | refine CV.scope ?_
      | refine CV.draw callees rfl ?_
      | refine CH.cons rfl ?_
      | refine CH.nil ?_
      | refine CO.consG rfl ?_
      | refine CH.consG rfl ?_
      | refine CG.cons rfl ?_
      | refine CG.nil ?_
      | refine CG.consG rfl ?_
      | refine ⟨(rfl : plain _ = true), ?_⟩
      | refine ⟨(rfl : nilOk _ = some _), ?_⟩
      | refine ⟨_, ints_len (by assumption), ?_⟩
      | refine ⟨_, ints_addr (by assumption) (by omega) (by omega), ?_⟩
      | refine ⟨_, ints_load (by assumption) (by omega) (by omega), ?_⟩
      | refine ⟨(⟨by omega, by omega⟩ : inI64 _), ?_⟩
      | refine ⟨_, fun tm ha => step1_max rfl (ev_tmp ha rfl) (ev_tmp ha rfl), ?_⟩
      | refine ⟨_, fun tm ha => step1_min rfl (ev_tmp ha rfl) (ev_tmp ha rfl), ?_⟩
      | refine ⟨_, len4, ?_⟩
      | refine ⟨_, hx, ?_⟩
      | (intro _ hr; subst hr)
      | refine ⟨_, fun tm ha => step1_conv unK5 un3 rfl (ev_tmp ha rfl), ?_⟩
      | (rw [hw])
      | refine ⟨_, _, build_one un22 one3 rfl, ?_⟩
      | (refine ⟨fun _ => ?_, fun _ => ?_⟩ <;> first | (exfalso; omega) | skip)
      | fail
    refine push_ask ho kx.1 hB (by simp; omega) ?_
    intro o2 H3 ho2 kb3 hf3
    repeat' first
      | refine CO.cons rfl ?_
      | refine CO.nil ?_
      | refine CV.seq ?_
      | refine CV.region callees ?_
      | refine CV.cond ?_
      | refine CV.block ?_
      | refine CV.skip ?_
      | refine CV.exit ?_
      | refine CV.ret ?_
      | refine CV.scope ?_
      | refine CV.draw callees rfl ?_
      | refine CH.cons rfl ?_
      | refine CH.nil ?_
      | refine CO.consG rfl ?_
      | refine CH.consG rfl ?_
      | refine CG.cons rfl ?_
      | refine CG.nil ?_
      | refine CG.consG rfl ?_
      | refine ⟨(rfl : plain _ = true), ?_⟩
      | refine ⟨(rfl : nilOk _ = some _), ?_⟩
      | refine ⟨_, ints_len (by assumption), ?_⟩
      | refine ⟨_, ints_addr (by assumption) (by omega) (by omega), ?_⟩
      | refine ⟨_, ints_load (by assumption) (by omega) (by omega), ?_⟩
      | refine ⟨(⟨by omega, by omega⟩ : inI64 _), ?_⟩
      | refine ⟨_, fun tm ha => step1_max rfl (ev_tmp ha rfl) (ev_tmp ha rfl), ?_⟩
      | refine ⟨_, fun tm ha => step1_min rfl (ev_tmp ha rfl) (ev_tmp ha rfl), ?_⟩
      | (refine ⟨fun _ => ?_, fun _ => ?_⟩ <;> first | (exfalso; omega) | skip)
      | fail
    refine ⟨(i + 1, o2), (by repeat' first | exact trivial | refine ⟨rfl, ?_⟩ | refine ⟨slot_int (by (try simp only [Int.toNat_natCast]); omega), ?_⟩), (by (try dsimp only); omega), ?_⟩
    exact ⟨by omega, by rw [hy]; exact ho2, kb3.keep kx fun c hc => (ho.lt hc).1⟩
  · have : i = 4 := by omega
    subst this
    repeat' first
      | refine CO.cons rfl ?_
      | refine CO.nil ?_
      | refine CV.seq ?_
      | refine CV.region callees ?_
      | refine CV.cond ?_
      | refine CV.block ?_
      | refine CV.skip ?_
      | refine CV.exit ?_
      | refine CV.ret ?_
      | refine CV.scope ?_
      | refine CV.draw callees rfl ?_
      | refine CH.cons rfl ?_
      | refine CH.nil ?_
      | refine CO.consG rfl ?_
      | refine CH.consG rfl ?_
      | refine CG.cons rfl ?_
      | refine CG.nil ?_
      | refine CG.consG rfl ?_
      | refine ⟨(rfl : plain _ = true), ?_⟩
      | refine ⟨(rfl : nilOk _ = some _), ?_⟩
      | refine ⟨_, ints_len (by assumption), ?_⟩
      | refine ⟨_, ints_addr (by assumption) (by omega) (by omega), ?_⟩
      | refine ⟨_, ints_load (by assumption) (by omega) (by omega), ?_⟩
      | refine ⟨(⟨by omega, by omega⟩ : inI64 _), ?_⟩
      | refine ⟨_, fun tm ha => step1_max rfl (ev_tmp ha rfl) (ev_tmp ha rfl), ?_⟩
      | refine ⟨_, fun tm ha => step1_min rfl (ev_tmp ha rfl) (ev_tmp ha rfl), ?_⟩
      | refine ⟨_, len4, ?_⟩
      | (refine ⟨fun _ => ?_, fun _ => ?_⟩ <;> first | (exfalso; omega) | skip)
      | fail
    exact ⟨by simp only [List.all_cons, List.all_nil, ho.notTuple]; rfl, ho, kx⟩
theorem vals_row (H : Heap) (l : List Value) (e : TypeId) : ∃ H', H.new (.cells l e 2) = H' ∧ Keep H H' ∧ Row H' (.slice (some ⟨H.n, 0, none⟩) l.length 0) l ∧ Own e H' (.slice (some ⟨H.n, 0, none⟩) l.length 0) l H.n :=
  ⟨_, rfl, Keep.new _ _, new_row rfl, .inr ⟨H.n, rfl, Nat.le_refl _, Nat.lt_succ_self _, Heap.get_new_eq _ _⟩⟩
set_option maxHeartbeats 4000000 in
set_option maxRecDepth 100000 in
theorem chartKnown_spec {H : Heap} (hBase : Base H) : CallB Tryd.prog H.n 9 [] H (fun r _ => r = .bool true) := by
  have hn : H.n ≤ H.n := Nat.le_refl _
  refine CV.enter callees false rfl Tryd.func9 rfl ok9 (Nat.le_of_ble_eq_true rfl) hn ?_
  obtain ⟨Ha, ea, ka, ra, _⟩ := vals_row H (([0, 1, 0, 2] : List Int).map VI) 3
  have ba : abuildSlice Tryd.prog H 22 4 [(0, VI 0), (1, VI 1), (2, VI 0), (3, VI 2)] = some (.slice (some ⟨H.n, 0, none⟩) 4 0, Ha, H.n) := by rw [← ea]; exact build_vals [VI 0, VI 1, VI 0, VI 2] un22 one3 rfl (by simp)
  obtain ⟨Hb, eb, kb, rb, _⟩ := vals_row Ha (([1] : List Int).map VI) 3
  have bb : abuildSlice Tryd.prog Ha 22 1 [(0, VI 1)] = some (.slice (some ⟨Ha.n, 0, none⟩) 1 0, Hb, Ha.n) := by rw [← eb]; exact build_vals [VI 1] un22 one3 rfl (by simp)
  obtain ⟨Hc, ec, kc, rc, _⟩ := vals_row Hb (([0, 2] : List Int).map VI) 3
  have bc : abuildSlice Tryd.prog Hb 22 2 [(0, VI 0), (1, VI 2)] = some (.slice (some ⟨Hb.n, 0, none⟩) 2 0, Hc, Hb.n) := by rw [← ec]; exact build_vals [VI 0, VI 2] un22 one3 rfl (by simp)
  obtain ⟨Hd, ed, kd, rd, _⟩ := vals_row Hc (([0, 9] : List Int).map VI) 3
  have bd : abuildSlice Tryd.prog Hc 22 2 [(0, VI 0), (1, VI 9)] = some (.slice (some ⟨Hc.n, 0, none⟩) 2 0, Hd, Hc.n) := by rw [← ed]; exact build_vals [VI 0, VI 9] un22 one3 rfl (by simp)
  obtain ⟨He, ee, ke, re, _⟩ := vals_row Hd [.slice (some ⟨H.n, 0, none⟩) 4 0, .slice none 0 0, .slice (some ⟨Ha.n, 0, none⟩) 1 0, .slice (some ⟨Hb.n, 0, none⟩) 2 0, .slice (some ⟨Hc.n, 0, none⟩) 2 0] 22
  have be : abuildSlice Tryd.prog Hd 41 5 [(0, .slice (some ⟨H.n, 0, none⟩) 4 0), (1, .slice none 0 0), (2, .slice (some ⟨Ha.n, 0, none⟩) 1 0), (3, .slice (some ⟨Hb.n, 0, none⟩) 2 0), (4, .slice (some ⟨Hc.n, 0, none⟩) 2 0)] = some (.slice (some ⟨Hd.n, 0, none⟩) 5 0, He, Hd.n) := by
    rw [← ee]; exact build_vals [.slice (some ⟨H.n, 0, none⟩) 4 0, .slice none 0 0, .slice (some ⟨Ha.n, 0, none⟩) 1 0, .slice (some ⟨Hb.n, 0, none⟩) 2 0, .slice (some ⟨Hc.n, 0, none⟩) 2 0] unK41 oneK22 rfl (by simp)
  obtain ⟨Hf, ef, kf, rf, _⟩ := vals_row He (([0, 6, 11, 11, 2] : List Int).map VI) 32
  have bf : abuildSlice Tryd.prog He 63 5 [(0, VI 0), (1, VI 6), (2, VI 11), (3, VI 11), (4, VI 2)] = some (.slice (some ⟨He.n, 0, none⟩) 5 0, Hf, He.n) := by rw [← ef]; exact build_vals [VI 0, VI 6, VI 11, VI 11, VI 2] unK63 oneK32 rfl (by simp)
  clear ea eb ec ed ee ef
  repeat' first
    | refine CO.cons rfl ?_
    | refine CO.nil ?_
    | refine CV.seq ?_
    | refine CV.region callees ?_
    | refine CV.cond ?_
    | refine CV.block ?_
    | refine CV.skip ?_
    | refine CV.exit ?_
    | refine CV.ret ?_
    | refine CV.scope ?_
    | refine CV.draw callees rfl ?_
    | refine CH.cons rfl ?_
    | refine CH.nil ?_
    | refine CO.consG rfl ?_
    | refine CH.consG rfl ?_
    | refine CG.cons rfl ?_
    | refine CG.nil ?_
    | refine CG.consG rfl ?_
    | refine ⟨(rfl : plain _ = true), ?_⟩
    | refine ⟨(rfl : nilOk _ = some _), ?_⟩
    | refine ⟨_, ints_len (by assumption), ?_⟩
    | refine ⟨_, ints_addr (by assumption) (by omega) (by omega), ?_⟩
    | refine ⟨_, ints_load (by assumption) (by omega) (by omega), ?_⟩
    | refine ⟨(⟨by omega, by omega⟩ : inI64 _), ?_⟩
    | refine ⟨_, fun tm ha => step1_max rfl (ev_tmp ha rfl) (ev_tmp ha rfl), ?_⟩
    | refine ⟨_, fun tm ha => step1_min rfl (ev_tmp ha rfl) (ev_tmp ha rfl), ?_⟩
    | refine ⟨_, _, ba, ?_⟩
    | refine ⟨_, _, bb, ?_⟩
    | refine ⟨_, _, bc, ?_⟩
    | refine ⟨_, _, bd, ?_⟩
    | refine ⟨_, _, be, ?_⟩
    | refine ⟨_, _, bf, ?_⟩
    | (refine ⟨fun _ => ?_, fun _ => ?_⟩ <;> first | (exfalso; omega) | skip)
    | fail
  have kk := ka.trans (kb.trans (kc.trans (kd.trans (ke.trans kf))))
  replace ra : Ints Hf _ [0, 1, 0, 2] := ra.keep (kb.trans (kc.trans (kd.trans (ke.trans kf))))
  replace rb : Ints Hf _ [1] := rb.keep (kc.trans (kd.trans (ke.trans kf)))
  replace rc : Ints Hf _ [0, 2] := rc.keep (kd.trans (ke.trans kf))
  replace rd : Ints Hf _ [0, 9] := rd.keep (ke.trans kf)
  replace re := re.keep kf
  have rn : Ints Hf (.slice none 0 0) [] := .inl ⟨rfl, rfl⟩
  clear ba bb bc bd be bf
  have hlist : ∀ i : Nat, i < 5 → ∃ (v : Value) (xs : List Int) (x : Int), aindexAddr Tryd.prog 41 (.slice (some ⟨Hd.n, 0, none⟩) 5 0) (.int .i64 i) = some (elemAt (.slice (some ⟨Hd.n, 0, none⟩) 5 0) i) ∧ aload Tryd.prog 22 Hf (elemAt (.slice (some ⟨Hd.n, 0, none⟩) 5 0) i) = some v ∧ Ints Hf v xs ∧
      aindexAddr Tryd.prog 63 (.slice (some ⟨He.n, 0, none⟩) 5 0) (.int .i64 i) = some (elemAt (.slice (some ⟨He.n, 0, none⟩) 5 0) i) ∧ aload Tryd.prog 32 Hf (elemAt (.slice (some ⟨He.n, 0, none⟩) 5 0) i) = some (.int .i64 x) ∧ check xs = x := fun i hi => by
    have h1 := Row.addr (kd := .i64) (n := (i : Int)) re unK41 szK22 (by omega) (by simp; omega)
    have h2 := Row.addr (kd := .i64) (n := (i : Int)) rf unK63 szK32 (by omega) (by simp; omega)
    obtain rfl | rfl | rfl | rfl | rfl : i = 0 ∨ i = 1 ∨ i = 2 ∨ i = 3 ∨ i = 4 := by omega
    · exact ⟨_, _, _, h1, Row.load re agK22 rfl, ra, h2, Row.load rf agK32 rfl, by decide⟩
    · exact ⟨_, _, _, h1, Row.load re agK22 rfl, rn, h2, Row.load rf agK32 rfl, by decide⟩
    · exact ⟨_, _, _, h1, Row.load re agK22 rfl, rb, h2, Row.load rf agK32 rfl, by decide⟩
    · exact ⟨_, _, _, h1, Row.load re agK22 rfl, rc, h2, Row.load rf agK32 rfl, by decide⟩
    · exact ⟨_, _, _, h1, Row.load re agK22 rfl, rd, h2, Row.load rf agK32 rfl, by decide⟩
  have hl5 : alen Tryd.prog Hf 41 (.slice (some ⟨Hd.n, 0, none⟩) 5 0) = some (.int .i64 5) := Row.alen re unK41
  generalize Value.slice (some ⟨Hd.n, 0, none⟩) 5 0 = L at hlist hl5
  generalize Value.slice (some ⟨He.n, 0, none⟩) 5 0 = M at hlist
  clear ra rb rc rd re rn rf
  refine CV.loopc ?_
  refine WCv.rounds callees false (α := Nat) (fun i => [(1, L), (2, M), (3, .int .i64 i)]) (fun i Hz => Hz = Hf ∧ i ≤ 5) (fun i => 5 - i) (0) (by repeat' first | exact trivial | refine ⟨rfl, ?_⟩ | refine ⟨slot_int (by (try simp only [Int.toNat_natCast]); omega), ?_⟩) ?_ ?_
  · exact ⟨rfl, by omega⟩
  rintro i Hx ⟨rfl, hi⟩ hB
  by_cases hi2 : i < 5
  · obtain ⟨v, xs, x, a1, a2, a3, a4, a5, a6⟩ := hlist i hi2
    repeat' first
      | refine CO.cons rfl ?_
      | refine CO.nil ?_
      | refine CV.seq ?_
      | refine CV.region callees ?_
      | refine CV.cond ?_
      | refine CV.block ?_
      | refine CV.skip ?_
      | refine CV.exit ?_
      | refine CV.ret ?_
      | refine CV.scope ?_
      | refine CV.draw callees rfl ?_
      | refine CH.cons rfl ?_
      | refine CH.nil ?_
      | refine CO.consG rfl ?_
      | refine CH.consG rfl ?_
      | refine CG.cons rfl ?_
      | refine CG.nil ?_
      | refine CG.consG rfl ?_
      | refine ⟨(rfl : plain _ = true), ?_⟩
      | refine ⟨(rfl : nilOk _ = some _), ?_⟩
      | refine ⟨_, ints_len (by assumption), ?_⟩
      | refine ⟨_, ints_addr (by assumption) (by omega) (by omega), ?_⟩
      | refine ⟨_, ints_load (by assumption) (by omega) (by omega), ?_⟩
      | refine ⟨(⟨by omega, by omega⟩ : inI64 _), ?_⟩
      | refine ⟨_, fun tm ha => step1_max rfl (ev_tmp ha rfl) (ev_tmp ha rfl), ?_⟩
      | refine ⟨_, fun tm ha => step1_min rfl (ev_tmp ha rfl) (ev_tmp ha rfl), ?_⟩
      | refine ⟨_, hl5, ?_⟩
      | refine ⟨_, a1, ?_⟩
      | refine ⟨_, a2, ?_⟩
      | refine ⟨_, a4, ?_⟩
      | refine ⟨_, a5, ?_⟩
      | (refine (check_spec (Nat.le_refl _) a3).mono ?_; rintro r H' ⟨rfl, rfl⟩)
      | (refine ⟨fun _ => ?_, fun _ => ?_⟩ <;> first | (exfalso; omega) | skip)
      | fail
    refine ⟨(i + 1), (by repeat' first | exact trivial | refine ⟨rfl, ?_⟩ | refine ⟨slot_int (by (try simp only [Int.toNat_natCast]); omega), ?_⟩), (by (try dsimp only); omega), ?_⟩
    exact ⟨rfl, by omega⟩
  have : i = 5 := by omega
  subst this
  repeat' first
    | refine CO.cons rfl ?_
    | refine CO.nil ?_
    | refine CV.seq ?_
    | refine CV.region callees ?_
    | refine CV.cond ?_
    | refine CV.block ?_
    | refine CV.skip ?_
    | refine CV.exit ?_
    | refine CV.ret ?_
    | refine CV.scope ?_
    | refine CV.draw callees rfl ?_
    | refine CH.cons rfl ?_
    | refine CH.nil ?_
    | refine CO.consG rfl ?_
    | refine CH.consG rfl ?_
    | refine CG.cons rfl ?_
    | refine CG.nil ?_
    | refine CG.consG rfl ?_
    | refine ⟨(rfl : plain _ = true), ?_⟩
    | refine ⟨(rfl : nilOk _ = some _), ?_⟩
    | refine ⟨_, ints_len (by assumption), ?_⟩
    | refine ⟨_, ints_addr (by assumption) (by omega) (by omega), ?_⟩
    | refine ⟨_, ints_load (by assumption) (by omega) (by omega), ?_⟩
    | refine ⟨(⟨by omega, by omega⟩ : inI64 _), ?_⟩
    | refine ⟨_, fun tm ha => step1_max rfl (ev_tmp ha rfl) (ev_tmp ha rfl), ?_⟩
    | refine ⟨_, fun tm ha => step1_min rfl (ev_tmp ha rfl) (ev_tmp ha rfl), ?_⟩
    | refine ⟨_, hl5, ?_⟩
    | (refine ⟨fun _ => ?_, fun _ => ?_⟩ <;> first | (exfalso; omega) | skip)
    | fail
  obtain ⟨Hg, eg, kg, rg, _⟩ := vals_row Hx (([7, -3, 7, 0] : List Int).map VI) 3
  have bg : abuildSlice Tryd.prog Hx 22 4 [(0, VI 7), (1, VI (-3)), (2, VI 7), (3, VI 0)] = some (.slice (some ⟨Hx.n, 0, none⟩) 4 0, Hg, Hx.n) := by rw [← eg]; exact build_vals [VI 7, VI (-3), VI 7, VI 0] un22 one3 rfl (by simp)
  repeat' first
    | refine CO.cons rfl ?_
    | refine CO.nil ?_
    | refine CV.seq ?_
    | refine CV.region callees ?_
    | refine CV.cond ?_
    | refine CV.block ?_
    | refine CV.skip ?_
    | refine CV.exit ?_
    | refine CV.ret ?_
    | refine CV.scope ?_
    | refine CV.draw callees rfl ?_
    | refine CH.cons rfl ?_
    | refine CH.nil ?_
    | refine CO.consG rfl ?_
    | refine CH.consG rfl ?_
    | refine CG.cons rfl ?_
    | refine CG.nil ?_
    | refine CG.consG rfl ?_
    | refine ⟨(rfl : plain _ = true), ?_⟩
    | refine ⟨(rfl : nilOk _ = some _), ?_⟩
    | refine ⟨_, ints_len (by assumption), ?_⟩
    | refine ⟨_, ints_addr (by assumption) (by omega) (by omega), ?_⟩
    | refine ⟨_, ints_load (by assumption) (by omega) (by omega), ?_⟩
    | refine ⟨(⟨by omega, by omega⟩ : inI64 _), ?_⟩
    | refine ⟨_, fun tm ha => step1_max rfl (ev_tmp ha rfl) (ev_tmp ha rfl), ?_⟩
    | refine ⟨_, fun tm ha => step1_min rfl (ev_tmp ha rfl) (ev_tmp ha rfl), ?_⟩
    | refine ⟨_, _, bg, ?_⟩
    | (refine ⟨fun _ => ?_, fun _ => ?_⟩ <;> first | (exfalso; omega) | skip)
    | fail
  have rg' : Ints Hg (.slice (some ⟨Hx.n, 0, none⟩) 4 0) [7, -3, 7, 0] := rg
  clear rg eg bg
  generalize Value.slice (some ⟨Hx.n, 0, none⟩) 4 0 = u at rg' ⊢
  have kG := kk.trans kg
  repeat' first
    | refine CO.cons rfl ?_
    | refine CO.nil ?_
    | refine CV.seq ?_
    | refine CV.region callees ?_
    | refine CV.cond ?_
    | refine CV.block ?_
    | refine CV.skip ?_
    | refine CV.exit ?_
    | refine CV.ret ?_
    | refine CV.scope ?_
    | refine CV.draw callees rfl ?_
    | refine CH.cons rfl ?_
    | refine CH.nil ?_
    | refine CO.consG rfl ?_
    | refine CH.consG rfl ?_
    | refine CG.cons rfl ?_
    | refine CG.nil ?_
    | refine CG.consG rfl ?_
    | refine ⟨(rfl : plain _ = true), ?_⟩
    | refine ⟨(rfl : nilOk _ = some _), ?_⟩
    | refine ⟨_, ints_len (by assumption), ?_⟩
    | refine ⟨_, ints_addr (by assumption) (by omega) (by omega), ?_⟩
    | refine ⟨_, ints_load (by assumption) (by omega) (by omega), ?_⟩
    | refine ⟨(⟨by omega, by omega⟩ : inI64 _), ?_⟩
    | refine ⟨_, fun tm ha => step1_max rfl (ev_tmp ha rfl) (ev_tmp ha rfl), ?_⟩
    | refine ⟨_, fun tm ha => step1_min rfl (ev_tmp ha rfl) (ev_tmp ha rfl), ?_⟩
    | (refine ⟨fun _ => ?_, fun _ => ?_⟩ <;> first | (exfalso; omega) | skip)
    | fail
  refine (of_spec kG.1 rg').mono ?_
  rintro r Hh ⟨ho, kh⟩
  rw [OfR, if_neg (by decide), if_neg (by decide)] at ho
  obtain ⟨o, rfl, ho⟩ := ho
  have kH := kG.trans kh
  have hoi : Ints Hh o [0, 1, 0, 2] := by
    have : num [7, -3, 7, 0] [] = [0, 1, 0, 2] := by decide
    rw [← this]; exact ho.row
  have hBh := base_keep hBase kH
  have c4 : pairV (cntR 4) = .tuple #[.int .i64 15, .int .i64 0] := by kernel_rfl
  have c9 : pairV (cntR 9) = .tuple #[.int .i64 21147, .int .i64 0] := by kernel_rfl
  have p2 : pairV (partR 4 2) = .tuple #[.int .i64 7, .int .i64 0] := by kernel_rfl
  have p4 : pairV (partR 4 4) = .tuple #[.int .i64 1, .int .i64 0] := by kernel_rfl
  repeat' first
    | refine CO.cons rfl ?_
    | refine CO.nil ?_
    | refine CV.seq ?_
    | refine CV.region callees ?_
    | refine CV.cond ?_
    | refine CV.block ?_
    | refine CV.skip ?_
    | refine CV.exit ?_
    | refine CV.ret ?_
    | refine CV.scope ?_
    | refine CV.draw callees rfl ?_
    | refine CH.cons rfl ?_
    | refine CH.nil ?_
    | refine CO.consG rfl ?_
    | refine CH.consG rfl ?_
    | refine CG.cons rfl ?_
    | refine CG.nil ?_
    | refine CG.consG rfl ?_
    | refine ⟨(rfl : plain _ = true), ?_⟩
    | refine ⟨(rfl : nilOk _ = some _), ?_⟩
    | refine ⟨_, ints_len (by assumption), ?_⟩
    | refine ⟨_, ints_addr (by assumption) (by omega) (by omega), ?_⟩
    | refine ⟨_, ints_load (by assumption) (by omega) (by omega), ?_⟩
    | refine ⟨(⟨by omega, by omega⟩ : inI64 _), ?_⟩
    | refine ⟨_, fun tm ha => step1_max rfl (ev_tmp ha rfl) (ev_tmp ha rfl), ?_⟩
    | refine ⟨_, fun tm ha => step1_min rfl (ev_tmp ha rfl) (ev_tmp ha rfl), ?_⟩
    | (refine (count_spec kH.1 hBh).mono ?_; rintro r H' ⟨rfl, rfl⟩; first | rw [c4] | rw [c9])
    | (refine (parted_spec kH.1 hBh).mono ?_; rintro r H' ⟨rfl, rfl⟩; first | rw [p2] | rw [p4])
    | (refine ⟨fun _ => ?_, fun _ => ?_⟩ <;> first | (exfalso; omega) | skip)
    | fail
  refine (word_spec kH.1).mono ?_
  rintro w Hi ⟨hw, ki⟩
  have kI := kH.trans ki
  have hoi2 : Ints Hi o [0, 1, 0, 2] := hoi.keep ki
  have hwi : Ints Hi w [0, 1, 0, 2] := hw.row
  have hBi := base_keep hBase kI
  repeat' first
    | refine CO.cons rfl ?_
    | refine CO.nil ?_
    | refine CV.seq ?_
    | refine CV.region callees ?_
    | refine CV.cond ?_
    | refine CV.block ?_
    | refine CV.skip ?_
    | refine CV.exit ?_
    | refine CV.ret ?_
    | refine CV.scope ?_
    | refine CV.draw callees rfl ?_
    | refine CH.cons rfl ?_
    | refine CH.nil ?_
    | refine CO.consG rfl ?_
    | refine CH.consG rfl ?_
    | refine CG.cons rfl ?_
    | refine CG.nil ?_
    | refine CG.consG rfl ?_
    | refine ⟨(rfl : plain _ = true), ?_⟩
    | refine ⟨(rfl : nilOk _ = some _), ?_⟩
    | refine ⟨_, ints_len (by assumption), ?_⟩
    | refine ⟨_, ints_addr (by assumption) (by omega) (by omega), ?_⟩
    | refine ⟨_, ints_load (by assumption) (by omega) (by omega), ?_⟩
    | refine ⟨(⟨by omega, by omega⟩ : inI64 _), ?_⟩
    | refine ⟨_, fun tm ha => step1_max rfl (ev_tmp ha rfl) (ev_tmp ha rfl), ?_⟩
    | refine ⟨_, fun tm ha => step1_min rfl (ev_tmp ha rfl) (ev_tmp ha rfl), ?_⟩
    | (refine ⟨fun _ => ?_, fun _ => ?_⟩ <;> first | (exfalso; omega) | skip)
    | fail
  refine (eq_spec kI.1 hoi2 hwi (by decide)).mono ?_
  rintro r H' ⟨rfl, rfl⟩
  rw [decide_eq_true rfl]
  repeat' first
    | refine CO.cons rfl ?_
    | refine CO.nil ?_
    | refine CV.seq ?_
    | refine CV.region callees ?_
    | refine CV.cond ?_
    | refine CV.block ?_
    | refine CV.skip ?_
    | refine CV.exit ?_
    | refine CV.ret ?_
    | refine CV.scope ?_
    | refine CV.draw callees rfl ?_
    | refine CH.cons rfl ?_
    | refine CH.nil ?_
    | refine CO.consG rfl ?_
    | refine CH.consG rfl ?_
    | refine CG.cons rfl ?_
    | refine CG.nil ?_
    | refine CG.consG rfl ?_
    | refine ⟨(rfl : plain _ = true), ?_⟩
    | refine ⟨(rfl : nilOk _ = some _), ?_⟩
    | refine ⟨_, ints_len (by assumption), ?_⟩
    | refine ⟨_, ints_addr (by assumption) (by omega) (by omega), ?_⟩
    | refine ⟨_, ints_load (by assumption) (by omega) (by omega), ?_⟩
    | refine ⟨(⟨by omega, by omega⟩ : inI64 _), ?_⟩
    | refine ⟨_, fun tm ha => step1_max rfl (ev_tmp ha rfl) (ev_tmp ha rfl), ?_⟩
    | refine ⟨_, fun tm ha => step1_min rfl (ev_tmp ha rfl) (ev_tmp ha rfl), ?_⟩
    | refine CallB.known rfl hBi kI.1 ?_
    | (refine ⟨fun _ => ?_, fun _ => ?_⟩ <;> first | (exfalso; omega) | skip)
    | fail
  exact ⟨rfl, rfl⟩
end Go.Proofs.YteocbhefhobehaaDoor
