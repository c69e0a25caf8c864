
/- Spans, links and chains that are the same. -/
import Derived.Test.Ytijimplcjaeneaam1o
set_option linter.unusedVariables false
set_option linter.unusedSimpArgs false
namespace Go.Proofs.Ytijimplcjaeneaa
open Go.AI
theorem pure_forIn2 {α β : Type} {P : Program} {init : β} {f : α → β → Sem (ForInStep β)} : ∀ (l : List α), (∀ a ∈ l, pureRun P (f a init) = some (.yield init)) → pureRun P (forIn l init f) = some init
  | [], _ => rfl
  | a :: l, h => by
    rw [List.forIn_cons, pureRun_bind, h a (by simp)]
    exact pure_forIn2 l fun b hb => h b (by simp [hb])
theorem eq_int2 {t : TypeId} {k : IntKind} {a : Int} {d : Nat} (ht : Try.prog.underlying t = some (.int k)) : pureRun Try.prog (Op.equalIn (d + 1) t (.int .i64 a) (.int .i64 a)) = some true := by
  rw [Op.equalIn, pureRun_bind, pureRun_underlying ht]
  simp
  rfl
theorem notHeldS : Try.prog.stoodInHeld sT = false := by kernel_rfl
theorem notHeldL : Try.prog.stoodInHeld 28 = false := by kernel_rfl
theorem partS0 {a b : Int} : pureRun Try.prog (part 3 #[VI a, VI b] 0) = some (VI a) := by kernel_rfl
theorem partS1 {a b : Int} : pureRun Try.prog (part 3 #[VI a, VI b] 1) = some (VI b) := by kernel_rfl
theorem partL0 {a b c d : Int} : pureRun Try.prog (part 3 #[VI a, VI b, VI c, VI d] 0) = some (VI a) := by kernel_rfl
theorem partL1 {a b c d : Int} : pureRun Try.prog (part 3 #[VI a, VI b, VI c, VI d] 1) = some (VI b) := by kernel_rfl
theorem partL2 {a b c d : Int} : pureRun Try.prog (part sT #[VI a, VI b, VI c, VI d] 2) = some (Spv c d) := by kernel_rfl
set_option maxRecDepth 100000 in
theorem eqSpn {a b : Int} {d : Nat} : pureRun Try.prog (Op.equalIn (d + 1 + 1) sT (Spv a b) (Spv a b)) = some true := by
  rw [Op.equalIn, pureRun_bind, pureRun_underlying Try.underlying23]
  simp only [Option.bind_some]
  rw [pureRun_bind, show pureRun Try.prog program = some Try.prog from rfl, Option.bind_some, if_neg (by rw [notHeldS]; simp), pureRun_bind, ← Array.forIn_toList, pure_forIn2]
  · rfl
  intro f hf
  simp only [List.mem_cons, List.not_mem_nil, or_false] at hf
  rcases hf with rfl | rfl
  · rw [if_pos (by decide), pureRun_bind, partS0, Option.bind_some, pureRun_bind, partS0, Option.bind_some, pureRun_bind, eq_int2 un3]; rfl
  · rw [if_pos (by decide), pureRun_bind, partS1, Option.bind_some, pureRun_bind, partS1, Option.bind_some, pureRun_bind, eq_int2 un3]; rfl
set_option maxRecDepth 100000 in
theorem eqLnk {x : Lk} : pureRun Try.prog (Op.equal 28 (Lkv x) (Lkv x)) = some true := by
  unfold Op.equal
  rw [show Op.maxDepth = 9997 + 1 + 1 + 1 from rfl, Op.equalIn, pureRun_bind, pureRun_underlying Try.underlying28]
  simp only [Option.bind_some]
  rw [pureRun_bind, show pureRun Try.prog program = some Try.prog from rfl, Option.bind_some, if_neg (by rw [notHeldL]; simp), pureRun_bind, ← Array.forIn_toList, pure_forIn2]
  · rfl
  intro f hf
  simp only [List.mem_cons, List.not_mem_nil, or_false] at hf
  rcases hf with rfl | rfl | rfl
  · rw [if_pos (by decide), pureRun_bind, partL0, Option.bind_some, pureRun_bind, partL0, Option.bind_some, pureRun_bind, eq_int2 un3]; rfl
  · rw [if_pos (by decide), pureRun_bind, partL1, Option.bind_some, pureRun_bind, partL1, Option.bind_some, pureRun_bind, eq_int2 un3]; rfl
  · rw [if_pos (by decide), pureRun_bind, partL2, Option.bind_some, pureRun_bind, partL2, Option.bind_some, pureRun_bind, eqSpn]; rfl
theorem guardSp {op : BinOp} {x y : Operand} {a b c d : Int} : pureRun Try.prog (eqGuard op sT x y (Spv a b) (Spv c d)) = some () := by
  cases op <;> kernel_rfl
theorem guardLk {op : BinOp} {x y : Operand} {p q : Lk} : pureRun Try.prog (eqGuard op 28 x y (Lkv p) (Lkv q)) = some () := by
  cases op <;> kernel_rfl
theorem step1_neSp {tm : Tm} {H : Heap} {q : Oper} {u : TypeId} {x y : Operand} {a b : Int} (ho : q.op = .binOp .neq sT x y u) (hx : ev Try.prog tm x = some (Spv a b)) (hy : ev Try.prog tm y = some (Spv a b)) : step1 Try.prog tm H q = some (.bool false, H, H.n) := by
  refine step1_bin ho hx hy rfl rfl (apure_bin ho hx hy rfl rfl guardSp ?_ rfl)
  rw [show binOp .neq sT (Spv a b) (Spv a b) = (do pure (.bool (!(← Op.equal sT (Spv a b) (Spv a b))))) from rfl, pureRun_bind, show Op.equal sT (Spv a b) (Spv a b) = Op.equalIn (9998 + 1 + 1) sT (Spv a b) (Spv a b) from rfl, eqSpn]
  rfl
theorem step1_neLk {tm : Tm} {H : Heap} {q : Oper} {u : TypeId} {x y : Operand} {p : Lk} (ho : q.op = .binOp .neq 28 x y u) (hx : ev Try.prog tm x = some (Lkv p)) (hy : ev Try.prog tm y = some (Lkv p)) : step1 Try.prog tm H q = some (.bool false, H, H.n) := by
  refine step1_bin ho hx hy rfl rfl (apure_bin ho hx hy rfl rfl guardLk ?_ rfl)
  rw [show binOp .neq 28 (Lkv p) (Lkv p) = (do pure (.bool (!(← Op.equal 28 (Lkv p) (Lkv p))))) from rfl, pureRun_bind, eqLnk]
  rfl
theorem sp_loadR {H : Heap} {v : Value} {ps : List (Int × Int)} (h : RowS 2 H v (ps.map Spl)) {j : Nat} (hj : j < ps.length) : aload Try.prog sT H (elemS v 2 j) = some (Spv ps[j]!.1 ps[j]!.2) := h.load agSp szSp (spl_at hj)
set_option maxHeartbeats 4000000 in
set_option maxRecDepth 100000 in
theorem eqChains_spec {B : Nat} {H : Heap} {mk lo hi : Int} {v w : Value} {ls : List Lk} (hB : B ≤ H.n) (hv : RowS 4 H v (ls.map Lkl)) (hw : RowS 4 H w (ls.map Lkl)) (hn : ls.length < 1000000) :
    CallB Try.prog B 30 [Chv mk lo hi v, Chv mk lo hi w] H (fun r H' => r = .bool true ∧ Keep H H') := by
  refine CV.enter callees false rfl Try.func30 rfl (by kernel_rfl) (Nat.le_of_ble_eq_true rfl) hB ?_
  repeat' first
    | refine CO.cons rfl ?_
    | refine CV.seq ?_
    | refine CV.region callees ?_
    | fail
  refine ⟨(by simp only [notTuple]), ?_⟩
  rw [boxCh hv.cells.1]
  generalize hs0 : Heap.new H _ = H0
  have hg0 := new_get hs0
  have k0 := new_keep hs0
  have n0 := new_n hs0
  obtain ⟨b0, hbn0⟩ : ∃ b, Heap.n H = b := ⟨_, rfl⟩
  rw [hbn0] at hg0 n0 ⊢
  repeat' first
    | refine CO.cons rfl ?_
    | fail
  refine ⟨(by simp only [notTuple]), ?_⟩
  rw [boxCh hw.cells.1]
  generalize hs1 : Heap.new H0 _ = H1
  have hg1 := new_get hs1
  have k1 := new_keep hs1
  have n1 := new_n hs1
  obtain ⟨b1, hbn1⟩ : ∃ b, Heap.n H0 = b := ⟨_, rfl⟩
  rw [hbn1] at hg1 n1 ⊢
  have hg01 := (k1.2 b0 (by omega)).trans hg0
  have k01 := k0.trans k1
  have hv1 := hv.keep k01
  have hw1 := hw.keep k01
  repeat' first
    | refine CO.cons rfl ?_
    | refine CO.nil ?_
    | refine CV.seq ?_
    | refine CV.region callees ?_
    | refine CV.cond ?_
    | refine CV.block ?_
    | refine CV.skip ?_
    | refine CO.consG rfl ?_
    | (refine ⟨_, fS foC0 (by decide), ?_⟩)
    | (refine ⟨_, fS foC1 (by decide), ?_⟩)
    | (refine ⟨_, fS foC2 (by decide), ?_⟩)
    | (refine ⟨_, cell_load ag3 hg01 rfl, ?_⟩)
    | (refine ⟨_, cell_load ag3 hg1 rfl, ?_⟩)
    | (refine ⟨_, ldChS hg01, ?_⟩)
    | (refine ⟨_, ldChS hg1, ?_⟩)
    | (refine ⟨_, fun tm ha => step1_neSp rfl (ev_tmp ha rfl) (ev_tmp ha rfl), ?_⟩)
    | (refine ⟨_, ls_len hv1, ?_⟩)
    | (refine ⟨_, ls_len hw1, ?_⟩)
    | (refine ⟨fun _ => ?_, fun _ => ?_⟩ <;> first | (exfalso; omega) | skip)
    | fail
  refine CV.loopc ?_
  refine WCv.rounds callees false (α := Nat) (fun i => [(2, .pointer (some ⟨b0, 0, none⟩)), (3, .pointer (some ⟨b1, 0, none⟩)), (5, VI i)]) (fun i Hz => i ≤ ls.length ∧ Hz = H1) (fun i => ls.length - i) (0) (by repeat' first | exact trivial | refine ⟨rfl, ?_⟩ | refine ⟨slot_int (by (try simp only [Int.toNat_natCast]); omega), ?_⟩) ?_ ?_
  · exact ⟨by omega, rfl⟩
  rintro i Hx ⟨hi, rfl⟩ hBx
  by_cases hi2 : i < ls.length
  · have h1 := ls_load hv1 (j := i) hi2
    have h2 := ls_load hw1 (j := i) hi2
    repeat' first
      | refine CO.cons rfl ?_
      | refine CO.nil ?_
      | refine CV.seq ?_
      | refine CV.region callees ?_
      | refine CV.cond ?_
      | refine CV.block ?_
      | refine CV.skip ?_
      | refine CV.draw callees (by decide +kernel) ?_
      | refine CH.cons rfl ?_
      | refine CH.nil ?_
      | refine ⟨(⟨by omega, by omega⟩ : inI64 _), ?_⟩
      | (refine ⟨_, fS foC2 (by decide), ?_⟩)
      | (refine ⟨_, cell_load agLs hg01 rfl, ?_⟩)
      | (refine ⟨_, cell_load agLs hg1 rfl, ?_⟩)
      | (refine ⟨_, ls_len hv1, ?_⟩)
      | (refine ⟨_, ls_addr hv1 (by omega) (by omega), ?_⟩)
      | (refine ⟨_, ls_addr hw1 (by omega) (by omega), ?_⟩)
      | (refine ⟨_, h1, ?_⟩)
      | (refine ⟨_, h2, ?_⟩)
      | (refine ⟨_, fun tm ha => step1_neLk rfl (ev_tmp ha rfl) (ev_tmp ha rfl), ?_⟩)
      | (refine ⟨fun _ => ?_, fun _ => ?_⟩ <;> first | (exfalso; omega) | skip)
      | fail
    refine ⟨(i + 1), (by repeat' first | exact trivial | refine ⟨rfl, ?_⟩ | refine ⟨slot_int (by (try simp only [Int.toNat_natCast]); omega), ?_⟩), (by (try dsimp only); omega), ?_⟩
    exact ⟨by omega, rfl⟩
  obtain rfl : i = ls.length := by omega
  repeat' first
    | refine CO.cons rfl ?_
    | refine CO.nil ?_
    | refine CV.seq ?_
    | refine CV.region callees ?_
    | refine CV.cond ?_
    | refine CV.exit ?_
    | refine CV.ret ?_
    | (refine ⟨_, fS foC2 (by decide), ?_⟩)
    | (refine ⟨_, cell_load agLs hg01 rfl, ?_⟩)
    | (refine ⟨_, ls_len hv1, ?_⟩)
    | (refine ⟨fun _ => ?_, fun _ => ?_⟩ <;> first | (exfalso; omega) | skip)
    | fail
  exact ⟨rfl, rfl, k01⟩
end Go.Proofs.Ytijimplcjaeneaa

