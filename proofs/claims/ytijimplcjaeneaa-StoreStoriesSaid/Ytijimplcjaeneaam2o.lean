
/- Spans, links and chains that are the same. -/
import Derived.Test.Ytijimplcjaeneaam1o
set_option linter.unusedVariables false
set_option linter.unusedSimpArgs false
namespace Go.Proofs.Ytijimplcjaeneaa
open Go.AI
theorem pure_forIn2 {α β : Type} {P : Program} {init : β} {f : α → β → Sem (ForInStep β)} : ∀ (l : List α), (∀ a ∈ l, pureRun P (f a init) = some (.yield init)) → pureRun P (forIn l init f) = some init
  | [], _ => rfl
  | a :: l, h => by
    rw [List.forIn_cons, pureRun_bind, h a (by simp)]
    exact pure_forIn2 l fun b hb => h b (by simp [hb])
theorem eq_int2 {t : TypeId} {k : IntKind} {a : Int} {d : Nat} (ht : Try.prog.underlying t = some (.int k)) : pureRun Try.prog (Op.equalIn (d + 1) t (.int .i64 a) (.int .i64 a)) = some true := by
  rw [Op.equalIn, pureRun_bind, pureRun_underlying ht]
  simp
  rfl
theorem notHeldS : Try.prog.stoodInHeld sT = false := by kernel_rfl
theorem partS0 {a b : Int} : pureRun Try.prog (part 3 #[VI a, VI b] 0) = some (VI a) := by kernel_rfl
theorem partS1 {a b : Int} : pureRun Try.prog (part 3 #[VI a, VI b] 1) = some (VI b) := by kernel_rfl
set_option maxRecDepth 100000 in
theorem eqSpn {a b : Int} {d : Nat} : pureRun Try.prog (Op.equalIn (d + 1 + 1) sT (Spv a b) (Spv a b)) = some true := by
  rw [Op.equalIn, pureRun_bind, pureRun_underlying Try.underlying23]
  simp only [Option.bind_some]
  rw [pureRun_bind, show pureRun Try.prog program = some Try.prog from rfl, Option.bind_some, if_neg (by rw [notHeldS]; simp), pureRun_bind, ← Array.forIn_toList, pure_forIn2]
  · rfl
  intro f hf
  simp only [List.mem_cons, List.not_mem_nil, or_false] at hf
  rcases hf with rfl | rfl
  · rw [if_pos (by decide), pureRun_bind, partS0, Option.bind_some, pureRun_bind, partS0, Option.bind_some, pureRun_bind, eq_int2 un3]; rfl
  · rw [if_pos (by decide), pureRun_bind, partS1, Option.bind_some, pureRun_bind, partS1, Option.bind_some, pureRun_bind, eq_int2 un3]; rfl
theorem guardSp {op : BinOp} {x y : Operand} {a b c d : Int} : pureRun Try.prog (eqGuard op sT x y (Spv a b) (Spv c d)) = some () := by
  cases op <;> kernel_rfl
theorem step1_neSp {tm : Tm} {H : Heap} {q : Oper} {u : TypeId} {x y : Operand} {a b : Int} (ho : q.op = .binOp .neq sT x y u) (hx : ev Try.prog tm x = some (Spv a b)) (hy : ev Try.prog tm y = some (Spv a b)) : step1 Try.prog tm H q = some (.bool false, H, H.n) := by
  refine step1_bin ho hx hy rfl rfl (apure_bin ho hx hy rfl rfl guardSp ?_ rfl)
  rw [show binOp .neq sT (Spv a b) (Spv a b) = (do pure (.bool (!(← Op.equal sT (Spv a b) (Spv a b))))) from rfl, pureRun_bind, show Op.equal sT (Spv a b) (Spv a b) = Op.equalIn (9998 + 1 + 1) sT (Spv a b) (Spv a b) from rfl, eqSpn]
  rfl
theorem sp_loadR {H : Heap} {v : Value} {ps : List (Int × Int)} (h : RowS 2 H v (ps.map Spl)) {j : Nat} (hj : j < ps.length) : aload Try.prog sT H (elemS v 2 j) = some (Spv ps[j]!.1 ps[j]!.2) := h.load agSp szSp (spl_at hj)
set_option maxRecDepth 100000 in
theorem eqSpansK_spec {B : Nat} {H : Heap} {v w : Value} {l : List (Int × Int)} (hB : B ≤ H.n) (hv : RowS 2 H v (l.map Spl)) (hw : RowS 2 H w (l.map Spl)) (hn : l.length < 1000000) :
    CallB Try.prog B 29 [v, w] H (fun r H' => r = .bool true ∧ H' = H) := by
  refine CV.enter callees false rfl Try.func29 rfl (by kernel_rfl) (Nat.le_of_ble_eq_true rfl) hB ?_
  repeat' first
    | refine CO.cons rfl ?_
    | refine CO.nil ?_
    | refine CV.seq ?_
    | refine CV.region callees ?_
    | refine CV.cond ?_
    | refine CV.block ?_
    | refine CV.skip ?_
    | (refine ⟨_, sp_alen hv, ?_⟩)
    | (refine ⟨_, sp_alen hw, ?_⟩)
    | (refine ⟨fun _ => ?_, fun _ => ?_⟩ <;> first | (exfalso; omega) | skip)
    | fail
  refine CV.loopc ?_
  refine WCv.rounds callees false (α := Nat) (fun i => [(0, v), (1, w), (5, VI i)]) (fun i Hz => i ≤ l.length ∧ Hz = H) (fun i => l.length - i) (0) (by repeat' first | exact trivial | refine ⟨rfl, ?_⟩ | refine ⟨slot_int (by (try simp only [Int.toNat_natCast]); omega), ?_⟩) ?_ ?_
  · exact ⟨by omega, rfl⟩
  rintro i Hx ⟨hi, rfl⟩ hBx
  by_cases hi2 : i < l.length
  · have h1 := sp_loadR hv (j := i) hi2
    have h2 := sp_loadR hw (j := i) hi2
    repeat' first
      | refine CO.cons rfl ?_
      | refine CO.nil ?_
      | refine CV.seq ?_
      | refine CV.region callees ?_
      | refine CV.cond ?_
      | refine CV.block ?_
      | refine CV.skip ?_
      | refine CV.draw callees (by decide +kernel) ?_
      | refine CH.cons rfl ?_
      | refine CH.nil ?_
      | refine ⟨(⟨by omega, by omega⟩ : inI64 _), ?_⟩
      | (refine ⟨_, sp_alen hv, ?_⟩)
      | (refine ⟨_, sp_addr hv (by omega) (by omega), ?_⟩)
      | (refine ⟨_, sp_addr hw (by omega) (by omega), ?_⟩)
      | (refine ⟨_, h1, ?_⟩)
      | (refine ⟨_, h2, ?_⟩)
      | (refine ⟨_, fun tm ha => step1_neSp rfl (ev_tmp ha rfl) (ev_tmp ha rfl), ?_⟩)
      | (refine ⟨fun _ => ?_, fun _ => ?_⟩ <;> first | (exfalso; omega) | skip)
      | fail
    refine ⟨(i + 1), (by repeat' first | exact trivial | refine ⟨rfl, ?_⟩ | refine ⟨slot_int (by (try simp only [Int.toNat_natCast]); omega), ?_⟩), (by (try dsimp only); omega), ?_⟩
    exact ⟨by omega, rfl⟩
  obtain rfl : i = l.length := by omega
  repeat' first
    | refine CO.cons rfl ?_
    | refine CO.nil ?_
    | refine CV.seq ?_
    | refine CV.region callees ?_
    | refine CV.cond ?_
    | refine CV.exit ?_
    | refine CV.ret ?_
    | (refine ⟨_, sp_alen hv, ?_⟩)
    | (refine ⟨fun _ => ?_, fun _ => ?_⟩ <;> first | (exfalso; omega) | skip)
    | fail
  exact ⟨rfl, rfl, rfl⟩
end Go.Proofs.Ytijimplcjaeneaa

