
/- Scores that are the same are equal. -/
import Derived.Test.YtcpklnekpdhlmaaS4s
set_option linter.unusedVariables false
set_option linter.unusedSimpArgs false
namespace Go.Proofs.Ytcpklnekpdhlmaa
open Go.AI
theorem pure_forIn {α β : Type} {P : Program} {init : β} {f : α → β → Sem (ForInStep β)} : ∀ (l : List α), (∀ a ∈ l, pureRun P (f a init) = some (.yield init)) → pureRun P (forIn l init f) = some init
  | [], _ => rfl
  | a :: l, h => by
    rw [List.forIn_cons, pureRun_bind, h a (by simp)]
    exact pure_forIn l fun b hb => h b (by simp [hb])
theorem eq_int {t : TypeId} {k : IntKind} {a : Int} {d : Nat} (ht : Try.prog.underlying t = some (.int k)) : pureRun Try.prog (Op.equalIn (d + 1) t (.int .i64 a) (.int .i64 a)) = some true := by
  rw [Op.equalIn, pureRun_bind, pureRun_underlying ht]
  simp
  rfl
theorem notHeld : Try.prog.stoodInHeld 36 = false := by kernel_rfl
theorem partX0 {p k w r n o s h : Int} : pureRun Try.prog (part 3 #[Value.int IntKind.i64 p, Value.int IntKind.i64 k, Value.int IntKind.i64 w, Value.int IntKind.i64 r, Value.int IntKind.i64 n, Value.int IntKind.i64 o, Value.int IntKind.i64 s, Value.int IntKind.i64 h] 0) = some (.int .i64 p) := by kernel_rfl
theorem partX1 {p k w r n o s h : Int} : pureRun Try.prog (part 3 #[Value.int IntKind.i64 p, Value.int IntKind.i64 k, Value.int IntKind.i64 w, Value.int IntKind.i64 r, Value.int IntKind.i64 n, Value.int IntKind.i64 o, Value.int IntKind.i64 s, Value.int IntKind.i64 h] 1) = some (.int .i64 k) := by kernel_rfl
theorem partX2 {p k w r n o s h : Int} : pureRun Try.prog (part 3 #[Value.int IntKind.i64 p, Value.int IntKind.i64 k, Value.int IntKind.i64 w, Value.int IntKind.i64 r, Value.int IntKind.i64 n, Value.int IntKind.i64 o, Value.int IntKind.i64 s, Value.int IntKind.i64 h] 2) = some (.int .i64 w) := by kernel_rfl
theorem partX3 {p k w r n o s h : Int} : pureRun Try.prog (part 3 #[Value.int IntKind.i64 p, Value.int IntKind.i64 k, Value.int IntKind.i64 w, Value.int IntKind.i64 r, Value.int IntKind.i64 n, Value.int IntKind.i64 o, Value.int IntKind.i64 s, Value.int IntKind.i64 h] 3) = some (.int .i64 r) := by kernel_rfl
theorem partX4 {p k w r n o s h : Int} : pureRun Try.prog (part 3 #[Value.int IntKind.i64 p, Value.int IntKind.i64 k, Value.int IntKind.i64 w, Value.int IntKind.i64 r, Value.int IntKind.i64 n, Value.int IntKind.i64 o, Value.int IntKind.i64 s, Value.int IntKind.i64 h] 4) = some (.int .i64 n) := by kernel_rfl
theorem partX5 {p k w r n o s h : Int} : pureRun Try.prog (part 3 #[Value.int IntKind.i64 p, Value.int IntKind.i64 k, Value.int IntKind.i64 w, Value.int IntKind.i64 r, Value.int IntKind.i64 n, Value.int IntKind.i64 o, Value.int IntKind.i64 s, Value.int IntKind.i64 h] 5) = some (.int .i64 o) := by kernel_rfl
theorem partX6 {p k w r n o s h : Int} : pureRun Try.prog (part 3 #[Value.int IntKind.i64 p, Value.int IntKind.i64 k, Value.int IntKind.i64 w, Value.int IntKind.i64 r, Value.int IntKind.i64 n, Value.int IntKind.i64 o, Value.int IntKind.i64 s, Value.int IntKind.i64 h] 6) = some (.int .i64 s) := by kernel_rfl
theorem partX7 {p k w r n o s h : Int} : pureRun Try.prog (part 3 #[Value.int IntKind.i64 p, Value.int IntKind.i64 k, Value.int IntKind.i64 w, Value.int IntKind.i64 r, Value.int IntKind.i64 n, Value.int IntKind.i64 o, Value.int IntKind.i64 s, Value.int IntKind.i64 h] 7) = some (.int .i64 h) := by kernel_rfl
set_option maxRecDepth 100000 in
theorem eqX {p k w r n o s h : Int} : pureRun Try.prog (Op.equal 36 (Xv p k w r n o s h) (Xv p k w r n o s h)) = some true := by
  unfold Op.equal
  rw [show Op.maxDepth = 9998 + 1 + 1 from rfl, Op.equalIn, pureRun_bind, pureRun_underlying Try.underlying36]
  simp only [Option.bind_some]
  rw [pureRun_bind, show pureRun Try.prog program = some Try.prog from rfl, Option.bind_some, if_neg (by rw [notHeld]; simp), pureRun_bind, ← Array.forIn_toList, pure_forIn]
  · rfl
  intro f hf
  simp only [List.mem_cons, List.not_mem_nil, or_false] at hf
  rcases hf with rfl | rfl | rfl | rfl | rfl | rfl | rfl | rfl
  · rw [if_pos (by decide), pureRun_bind, partX0, Option.bind_some, pureRun_bind, partX0, Option.bind_some, pureRun_bind, eq_int un3]; rfl
  · rw [if_pos (by decide), pureRun_bind, partX1, Option.bind_some, pureRun_bind, partX1, Option.bind_some, pureRun_bind, eq_int un3]; rfl
  · rw [if_pos (by decide), pureRun_bind, partX2, Option.bind_some, pureRun_bind, partX2, Option.bind_some, pureRun_bind, eq_int un3]; rfl
  · rw [if_pos (by decide), pureRun_bind, partX3, Option.bind_some, pureRun_bind, partX3, Option.bind_some, pureRun_bind, eq_int un3]; rfl
  · rw [if_pos (by decide), pureRun_bind, partX4, Option.bind_some, pureRun_bind, partX4, Option.bind_some, pureRun_bind, eq_int un3]; rfl
  · rw [if_pos (by decide), pureRun_bind, partX5, Option.bind_some, pureRun_bind, partX5, Option.bind_some, pureRun_bind, eq_int un3]; rfl
  · rw [if_pos (by decide), pureRun_bind, partX6, Option.bind_some, pureRun_bind, partX6, Option.bind_some, pureRun_bind, eq_int un3]; rfl
  · rw [if_pos (by decide), pureRun_bind, partX7, Option.bind_some, pureRun_bind, partX7, Option.bind_some, pureRun_bind, eq_int un3]; rfl
theorem guardX {op : BinOp} {x y : Operand} {p k w r n o s h p' k' w' r' n' o' s' h' : Int} : pureRun Try.prog (eqGuard op 36 x y (Xv p k w r n o s h) (Xv p' k' w' r' n' o' s' h')) = some () := by
  cases op <;> kernel_rfl
theorem step1_eqX {tm : Tm} {H : Heap} {q : Oper} {u : TypeId} {x y : Operand} {p k w r n o s h : Int} (ho : q.op = .binOp .eql 36 x y u) (hx : ev Try.prog tm x = some (Xv p k w r n o s h)) (hy : ev Try.prog tm y = some (Xv p k w r n o s h)) : step1 Try.prog tm H q = some (.bool true, H, H.n) := by
  refine step1_bin ho hx hy rfl rfl (apure_bin ho hx hy rfl rfl guardX ?_ rfl)
  rw [show binOp .eql 36 (Xv p k w r n o s h) (Xv p k w r n o s h) = (do pure (.bool (← Op.equal 36 (Xv p k w r n o s h) (Xv p k w r n o s h)))) from rfl, pureRun_bind, eqX]
  rfl
end Go.Proofs.Ytcpklnekpdhlmaa
