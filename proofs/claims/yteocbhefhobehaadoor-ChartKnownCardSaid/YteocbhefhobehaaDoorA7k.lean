/- checkBoth, Finer, Clone, Ints: what they answer. -/
import Derived.Test.YteocbhefhobehaaDoorA4k
set_option linter.unusedVariables false
set_option linter.unusedSimpArgs false
namespace Go.Proofs.YteocbhefhobehaaDoor
open Go.AI

theorem ok41 : codeOk Tryd.f41.ntmps (Tryd.f41.body.getD .skip) = true := by kernel_rfl
theorem ok90 : codeOk Tryd.f90.ntmps (Tryd.f90.body.getD .skip) = true := by kernel_rfl
theorem ok92 : codeOk Tryd.f92.ntmps (Tryd.f92.body.getD .skip) = true := by kernel_rfl
theorem ok25 : codeOk Tryd.f25.ntmps (Tryd.f25.body.getD .skip) = true := by kernel_rfl

def chk2 (xs ys : List Int) : Int := if check xs = 0 then (if check ys = 0 then (if xs.length = ys.length then 0 else 12) else check ys) else check xs

set_option maxRecDepth 100000 in
theorem checkBoth_spec {B : Nat} {v u : Value} {H : Heap} {xs ys : List Int} (hB : B ≤ H.n) (hv : Ints H v xs) (hu : Ints H u ys) :
    CallB Tryd.prog B 90 [v, u] H (fun r H' => r = .int .i64 (chk2 xs ys) ∧ H' = H) := by
  refine vcF_spec callees (wr := false) rfl Tryd.func90 rfl ok90 (by simp [Tryd.ntmps90]) hB ?_
  refine (check_spec hB hv).mono ?_
  rintro r H' ⟨rfl, rfl⟩
  refine ⟨fun h1 => ?_, fun h1 => ?_⟩
  · exact ⟨rfl, by rw [chk2, if_neg h1], rfl⟩
  refine (check_spec hB hu).mono ?_
  rintro r H' ⟨rfl, rfl⟩
  refine ⟨fun h2 => ?_, fun h2 => ?_⟩
  · exact ⟨rfl, by rw [chk2, if_pos (Classical.not_not.1 h1), if_neg h2], rfl⟩
  refine ⟨_, ints_len hv, _, ints_len hu, ?_⟩
  refine ⟨fun h3 => ?_, fun h3 => ?_⟩
  · exact ⟨rfl, by rw [chk2, if_pos (Classical.not_not.1 h1), if_pos (Classical.not_not.1 h2), if_neg (by omega)], rfl⟩
  · exact ⟨rfl, by rw [chk2, if_pos (Classical.not_not.1 h1), if_pos (Classical.not_not.1 h2), if_pos (by omega)], rfl⟩

theorem check_len {xs : List Int} (h : check xs = 0) : 0 < xs.length ∧ xs.length ≤ 9 := by
  unfold check at h
  split at h
  · cases h
  · split at h
    · cases h
    · omega
theorem chk2_zero {xs ys : List Int} (h : chk2 xs ys = 0) : check xs = 0 ∧ check ys = 0 ∧ xs.length = ys.length := by
  unfold chk2 at h
  split at h
  · rename_i h1
    split at h
    · rename_i h2
      split at h
      · exact ⟨h1, h2, by assumption⟩
      · cases h
    · rename_i h2; exact absurd h h2
  · rename_i h1; exact absurd h h1

/-- What is alike in one is alike in the other. -/
def Fine (xs ys : List Int) : Prop := ∀ i j : Nat, j < i → i < xs.length → xs[i]! = xs[j]! → ys[i]! = ys[j]!

set_option maxRecDepth 100000 in
theorem finer_spec {B : Nat} {v u : Value} {H : Heap} {xs ys : List Int} (hB : B ≤ H.n) (hv : Ints H v xs) (hu : Ints H u ys) :
    CallB Tryd.prog B 41 [v, u] H (fun r H' => (∃ b : Bool, r = .tuple #[.bool b, .int .i64 (chk2 xs ys)] ∧ (chk2 xs ys = 0 → (b = true ↔ Fine xs ys)) ∧ (chk2 xs ys ≠ 0 → b = false)) ∧ H' = H) := by
  refine vcF_spec callees (wr := false) rfl Tryd.func41 rfl ok41 (by simp [Tryd.ntmps41]) hB ?_
  refine (checkBoth_spec hB hv hu).mono ?_
  rintro r H' ⟨rfl, rfl⟩
  refine ⟨fun h1 => ?_, fun h1 => ?_⟩
  · exact ⟨rfl, ⟨false, rfl, fun h => absurd h h1, fun _ => rfl⟩, rfl⟩
  have h0 : chk2 xs ys = 0 := Classical.not_not.1 h1
  obtain ⟨hcx, hcy, hl⟩ := chk2_zero h0
  have hlx := check_len hcx
  refine ⟨_, ints_len hv, ?_⟩
  refine WCv.loop callees false (α := Int) (fun a => [(0, v), (1, u), (16, .int .i64 xs.length), (17, .int .i64 a)])
    (fun a Hx => Hx = H' ∧ 0 ≤ a ∧ a ≤ xs.length ∧ ∀ i j : Nat, j < i → (i : Int) < a → xs[i]! = xs[j]! → ys[i]! = ys[j]!) (fun a => xs.length - a.toNat) 0 ?_ ?_ ?_
  · exact ⟨rfl, rfl, rfl, rfl, trivial⟩
  · exact ⟨rfl, by simp, by simp, fun i j _ h => by omega⟩
  rintro i Hx ⟨hHx, hi0, hi1, hf⟩ _
  subst hHx
  refine ⟨fun h3 => ?_, fun h3 => ?_⟩
  · refine WCv.loop callees false (α := Int) (fun a => [(0, v), (1, u), (16, .int .i64 xs.length), (17, .int .i64 i), (7, .int .i64 i), (20, .int .i64 i), (21, .int .i64 a)])
      (fun a Hy => Hy = Hx ∧ 0 ≤ a ∧ a ≤ i ∧ ∀ j : Nat, (j : Int) < a → xs[i.toNat]! = xs[j]! → ys[i.toNat]! = ys[j]!) (fun a => i.toNat - a.toNat) 0 ?_ ?_ ?_
    · exact ⟨rfl, rfl, rfl, rfl, rfl, rfl, rfl, trivial⟩
    · exact ⟨rfl, by simp, by simpa using hi0, fun j h => by omega⟩
    rintro k Hy ⟨hHy, hk0, hk1, hg⟩ _
    subst hHy
    refine ⟨fun h4 => ?_, fun h4 => ?_⟩
    · refine ⟨_, ints_addr hv hi0 h3, _, ints_load hv hi0 h3, ?_⟩
      refine ⟨_, ints_addr hv hk0 (by omega), _, ints_load hv hk0 (by omega), ?_⟩
      have more : (xs[i.toNat]! = xs[k.toNat]! → ys[i.toNat]! = ys[k.toNat]!) → ∀ j : Nat, (j : Int) < k + 1 → xs[i.toNat]! = xs[j]! → ys[i.toNat]! = ys[j]! := by
        intro h j hj he
        by_cases hjk : (j : Int) < k
        · exact hg j hjk he
        · have : j = k.toNat := by omega
          subst this; exact h he
      refine ⟨fun h5 => ?_, fun h5 => ?_⟩
      · refine ⟨_, ints_addr hu hi0 (by omega), _, ints_load hu hi0 (by omega), ?_⟩
        refine ⟨_, ints_addr hu hk0 (by omega), _, ints_load hu hk0 (by omega), ?_⟩
        refine ⟨fun h6 => ?_, fun h6 => ?_⟩
        · refine ⟨rfl, ⟨false, by rw [h0], fun _ => ⟨(fun h => by cases h), fun h => absurd (h i.toNat k.toNat (by omega) (by omega) h5) h6⟩, fun _ => rfl⟩, rfl⟩
        · refine ⟨⟨by omega, by omega⟩, ?_⟩
          refine ⟨k + 1, ⟨rfl, rfl, rfl, rfl, rfl, rfl, rfl, trivial⟩, ?_, rfl, ?_, ?_, more fun _ => Classical.not_not.1 h6⟩
          · show i.toNat - (k + 1).toNat < i.toNat - k.toNat; omega
          · omega
          · omega
      · refine ⟨⟨by omega, by omega⟩, ?_⟩
        refine ⟨k + 1, ⟨rfl, rfl, rfl, rfl, rfl, rfl, rfl, trivial⟩, ?_, rfl, ?_, ?_, more fun h => absurd h h5⟩
        · show i.toNat - (k + 1).toNat < i.toNat - k.toNat; omega
        · omega
        · omega
    · refine ⟨⟨by omega, by omega⟩, ?_⟩
      refine ⟨i + 1, ⟨rfl, rfl, rfl, rfl, trivial⟩, ?_, rfl, ?_, ?_, ?_⟩
      · show xs.length - (i + 1).toNat < xs.length - i.toNat; omega
      · omega
      · omega
      · intro a b hab ha
        by_cases hai : (a : Int) < i
        · exact hf a b hab hai
        · have : a = i.toNat := by omega
          subst this
          exact hg b (by omega)
  · refine ⟨rfl, ⟨true, by rw [h0], fun _ => ⟨fun _ a b hab ha => hf a b hab (by omega), fun _ => rfl⟩, fun h => absurd h0 h⟩, rfl⟩

set_option maxRecDepth 100000 in
theorem ints_spec {B : Nat} {v : Value} {H : Heap} {xs : List Int} (hB : B ≤ H.n) (hv : Ints H v xs) (hn : xs.length < 1000000) :
    CallB Tryd.prog B 25 [v] H (fun r H' => Own 3 H' r (xs.map VI) H.n ∧ Keep H H') := by
  refine vcF_spec callees (wr := false) rfl Tryd.func25 rfl ok25 (by simp [Tryd.ntmps25]) hB ?_
  refine ⟨_, _, build_none un22 one3, ?_⟩
  obtain ⟨r, H', b, h1, h2, h3, h4⟩ := append_copy un22 one3 (by omega) hv (by simpa using hn)
  refine ⟨_, _, _, h1, Nat.le_trans hB h2, ?_⟩
  exact ⟨by simp only [List.all_cons, List.all_nil, h3.notTuple]; rfl, h3, h4⟩

theorem row_shape {H : Heap} {v : Value} {vs : List Value} (h : Row H v vs) : (v = .slice none 0 0 ∧ vs = []) ∨ ∃ a n c, v = .slice (some a) n c := by
  rcases h with h | ⟨h, _⟩ | ⟨b, i, c, cs, e, k, h, _⟩
  · exact .inl h
  · exact .inr ⟨_, _, _, h⟩
  · exact .inr ⟨_, _, _, h⟩
theorem step1_nilnil {P : Program} {tm : Tm} {H : Heap} {o : Oper} {t u e : TypeId} {x y : Operand} (ht : P.underlying t = some (.slice e)) (ho : o.op = .binOp .eql t x y u) (hx : ev P tm x = some (.slice none 0 0)) (hy : ev P tm y = some (.slice none 0 0)) : step1 P tm H o = some (.bool true, H, H.n) := by
  refine step1_bin ho hx hy rfl rfl (apure_bin ho hx hy rfl rfl (by rfl) ?_ rfl)
  rw [show binOp .eql t (.slice none 0 0) (.slice none 0 0) = (do pure (.bool (← Op.equal t (.slice none 0 0) (.slice none 0 0)))) from rfl, pureRun_bind]
  rw [show pureRun P (Op.equal t (.slice none 0 0) (.slice none 0 0)) = some true by
    unfold Op.equal
    rw [show Op.maxDepth = 9999 + 1 from rfl, Op.equalIn, pureRun_bind, pureRun_underlying ht]
    rfl]
  rfl

set_option maxRecDepth 100000 in
theorem clone_spec {B : Nat} {v : Value} {H : Heap} {xs : List Int} (hB : B ≤ H.n) (hv : Ints H v xs) (hn : xs.length < 1000000) :
    CallB Tryd.prog B 92 [v] H (fun r H' => Own 3 H' r (xs.map VI) H.n ∧ Keep H H') := by
  refine vcF_spec callees (wr := false) rfl Tryd.func92 rfl ok92 (by simp [Tryd.ntmps92]) hB ?_
  rcases row_shape hv with ⟨rfl, h0⟩ | ⟨a, n, c, rfl⟩
  · refine ⟨_, fun tm ha => step1_nilnil un22 rfl (ev_tmp ha rfl) rfl, ?_⟩
    exact ⟨rfl, .inl ⟨rfl, h0⟩, Keep.refl _⟩
  · refine ⟨_, fun tm ha => step1_nil rfl (ev_tmp ha rfl) rfl rfl (by simp [anil, un22]; rfl), ?_⟩
    refine ⟨_, _, build_none un22 one3, ?_⟩
    obtain ⟨r, H', b, h1, h2, h3, h4⟩ := append_copy un22 one3 (by omega) hv (by simpa using hn)
    refine ⟨_, _, _, h1, Nat.le_trans hB h2, ?_⟩
    exact ⟨by simp only [List.all_cons, List.all_nil, h3.notTuple]; rfl, h3, h4⟩
end Go.Proofs.YteocbhefhobehaaDoor
