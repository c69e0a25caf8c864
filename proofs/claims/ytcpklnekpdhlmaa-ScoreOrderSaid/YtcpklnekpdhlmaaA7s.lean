
/- checkBoth, Finer, Clone, Ints: what they answer. -/
import Derived.Test.YtcpklnekpdhlmaaA4s
set_option linter.unusedVariables false
set_option linter.unusedSimpArgs false
namespace Go.Proofs.Ytcpklnekpdhlmaa
open Go.AI

theorem ok70 : codeOk Try.f70.ntmps (Try.f70.body.getD .skip) = true := by kernel_rfl
theorem ok84 : codeOk Try.f84.ntmps (Try.f84.body.getD .skip) = true := by kernel_rfl
theorem ok19 : codeOk Try.f19.ntmps (Try.f19.body.getD .skip) = true := by kernel_rfl

def chk2 (xs ys : List Int) : Int := if check xs = 0 then (if check ys = 0 then (if xs.length = ys.length then 0 else 12) else check ys) else check xs

set_option maxRecDepth 100000 in
theorem checkBoth_spec {B : Nat} {v u : Value} {H : Heap} {xs ys : List Int} (hB : B ≤ H.n) (hv : Ints H v xs) (hu : Ints H u ys) :
    CallB Try.prog B 70 [v, u] H (fun r H' => r = .int .i64 (chk2 xs ys) ∧ H' = H) := by
  refine vcF_spec callees (wr := false) rfl Try.func70 rfl ok70 (by simp [Try.ntmps70]) hB ?_
  refine (check_spec hB hv).mono ?_
  rintro r H' ⟨rfl, rfl⟩
  refine ⟨fun h1 => ?_, fun h1 => ?_⟩
  · exact ⟨rfl, by rw [chk2, if_neg h1], rfl⟩
  refine (check_spec hB hu).mono ?_
  rintro r H' ⟨rfl, rfl⟩
  refine ⟨fun h2 => ?_, fun h2 => ?_⟩
  · exact ⟨rfl, by rw [chk2, if_pos (Classical.not_not.1 h1), if_neg h2], rfl⟩
  refine ⟨_, ints_len hv, _, ints_len hu, ?_⟩
  refine ⟨fun h3 => ?_, fun h3 => ?_⟩
  · exact ⟨rfl, by rw [chk2, if_pos (Classical.not_not.1 h1), if_pos (Classical.not_not.1 h2), if_neg (by omega)], rfl⟩
  · exact ⟨rfl, by rw [chk2, if_pos (Classical.not_not.1 h1), if_pos (Classical.not_not.1 h2), if_pos (by omega)], rfl⟩

theorem check_len {xs : List Int} (h : check xs = 0) : 0 < xs.length ∧ xs.length ≤ 9 := by
  unfold check at h
  split at h
  · cases h
  · split at h
    · cases h
    · omega
theorem chk2_zero {xs ys : List Int} (h : chk2 xs ys = 0) : check xs = 0 ∧ check ys = 0 ∧ xs.length = ys.length := by
  unfold chk2 at h
  split at h
  · rename_i h1
    split at h
    · rename_i h2
      split at h
      · exact ⟨h1, h2, by assumption⟩
      · cases h
    · rename_i h2; exact absurd h h2
  · rename_i h1; exact absurd h h1

/-- What is alike in one is alike in the other. -/
def Fine (xs ys : List Int) : Prop := ∀ i j : Nat, j < i → i < xs.length → xs[i]! = xs[j]! → ys[i]! = ys[j]!

set_option maxRecDepth 100000 in
theorem ints_spec {B : Nat} {v : Value} {H : Heap} {xs : List Int} (hB : B ≤ H.n) (hv : Ints H v xs) (hn : xs.length < 1000000) :
    CallB Try.prog B 19 [v] H (fun r H' => Own 3 H' r (xs.map VI) H.n ∧ Keep H H') := by
  refine vcF_spec callees (wr := false) rfl Try.func19 rfl ok19 (by simp [Try.ntmps19]) hB ?_
  refine ⟨_, _, build_none un22 one3, ?_⟩
  obtain ⟨r, H', b, h1, h2, h3, h4⟩ := append_copy un22 one3 (by omega) hv (by simpa using hn)
  refine ⟨_, _, _, h1, Nat.le_trans hB h2, ?_⟩
  exact ⟨by simp only [List.all_cons, List.all_nil, h3.notTuple]; rfl, h3, h4⟩

theorem row_shape {H : Heap} {v : Value} {vs : List Value} (h : Row H v vs) : (v = .slice none 0 0 ∧ vs = []) ∨ ∃ a n c, v = .slice (some a) n c := by
  rcases h with h | ⟨h, _⟩ | ⟨b, i, c, cs, e, k, h, _⟩
  · exact .inl h
  · exact .inr ⟨_, _, _, h⟩
  · exact .inr ⟨_, _, _, h⟩
theorem step1_nilnil {P : Program} {tm : Tm} {H : Heap} {o : Oper} {t u e : TypeId} {x y : Operand} (ht : P.underlying t = some (.slice e)) (ho : o.op = .binOp .eql t x y u) (hx : ev P tm x = some (.slice none 0 0)) (hy : ev P tm y = some (.slice none 0 0)) : step1 P tm H o = some (.bool true, H, H.n) := by
  refine step1_bin ho hx hy rfl rfl (apure_bin ho hx hy rfl rfl (by rfl) ?_ rfl)
  rw [show binOp .eql t (.slice none 0 0) (.slice none 0 0) = (do pure (.bool (← Op.equal t (.slice none 0 0) (.slice none 0 0)))) from rfl, pureRun_bind]
  rw [show pureRun P (Op.equal t (.slice none 0 0) (.slice none 0 0)) = some true by
    unfold Op.equal
    rw [show Op.maxDepth = 9999 + 1 from rfl, Op.equalIn, pureRun_bind, pureRun_underlying ht]
    rfl]
  rfl

set_option maxRecDepth 100000 in
theorem clone_spec {B : Nat} {v : Value} {H : Heap} {xs : List Int} (hB : B ≤ H.n) (hv : Ints H v xs) (hn : xs.length < 1000000) :
    CallB Try.prog B 84 [v] H (fun r H' => Own 3 H' r (xs.map VI) H.n ∧ Keep H H') := by
  refine vcF_spec callees (wr := false) rfl Try.func84 rfl ok84 (by simp [Try.ntmps84]) hB ?_
  rcases row_shape hv with ⟨rfl, h0⟩ | ⟨a, n, c, rfl⟩
  · refine ⟨_, fun tm ha => step1_nilnil un22 rfl (ev_tmp ha rfl) rfl, ?_⟩
    exact ⟨rfl, .inl ⟨rfl, h0⟩, Keep.refl _⟩
  · refine ⟨_, fun tm ha => step1_nil rfl (ev_tmp ha rfl) rfl rfl (by simp [anil, un22]; rfl), ?_⟩
    refine ⟨_, _, build_none un22 one3, ?_⟩
    obtain ⟨r, H', b, h1, h2, h3, h4⟩ := append_copy un22 one3 (by omega) hv (by simpa using hn)
    refine ⟨_, _, _, h1, Nat.le_trans hB h2, ?_⟩
    exact ⟨by simp only [List.all_cons, List.all_nil, h3.notTuple]; rfl, h3, h4⟩
end Go.Proofs.Ytcpklnekpdhlmaa
