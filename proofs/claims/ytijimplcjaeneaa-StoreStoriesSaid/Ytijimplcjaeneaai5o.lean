
/- A row of as many spans, all the same (slices.Repeat). -/
import Derived.Test.Ytijimplcjaeneaai0o
set_option linter.unusedVariables false
set_option linter.unusedSimpArgs false
namespace Go.Proofs.Ytijimplcjaeneaa
open Go.AI
section
variable {P : Program} {tm : Tm} {H : Heap} {o : Oper}
theorem and7 {a : Int} (h0 : 0 ≤ a) (h1 : a ≤ 7) : pureRun P (Op.intBits .and .u64 a 4294967295) = some (.int .u64 a) := by
  rcases (by omega : a = 0 ∨ a = 1 ∨ a = 2 ∨ a = 3 ∨ a = 4 ∨ a = 5 ∨ a = 6 ∨ a = 7) with rfl | rfl | rfl | rfl | rfl | rfl | rfl | rfl <;> rfl
theorem shr7 {t u : TypeId} {x y : Operand} {a : Int} (ho : o.op = .binOp .shr t x y u) (hx : ev P tm x = some (.int .u64 a)) (hy : ev P tm y = some (.int .u64 32)) (h0 : 0 ≤ a) (h1 : a ≤ 7) : step1 P tm H o = some (.int .u64 0, H, H.n) := by
  rw [step1_shr ho hx hy (by decide)]
  rcases (by omega : a = 0 ∨ a = 1 ∨ a = 2 ∨ a = 3 ∨ a = 4 ∨ a = 5 ∨ a = 6 ∨ a = 7) with rfl | rfl | rfl | rfl | rfl | rfl | rfl | rfl <;> rfl
theorem convU {s d : TypeId} {x : Operand} {j : IntKind} {n : Int} {ds : TypeDesc} (hs : P.underlying s = some ds) (hd : P.underlying d = some (.int .u64)) (ho : o.op = .convert s d x) (hx : ev P tm x = some (.int j n)) (h0 : 0 ≤ n) (h1 : n < 9223372036854775808) : step1 P tm H o = some (.int .u64 n, H, H.n) := by
  rw [step1_conv hs hd ho hx, wrapU h0 (by omega)]
theorem convI {s d : TypeId} {x : Operand} {j : IntKind} {n : Int} {ds : TypeDesc} (hs : P.underlying s = some ds) (hd : P.underlying d = some (.int .i64)) (ho : o.op = .convert s d x) (hx : ev P tm x = some (.int j n)) (h0 : 0 ≤ n) (h1 : n < 9223372036854775808) : step1 P tm H o = some (.int .i64 n, H, H.n) := by
  rw [step1_conv hs hd ho hx, wrapI (by omega) (by omega)]
end
theorem unUi : Try.prog.underlying 112 = some (.int .u64) := by kernel_rfl
set_option maxHeartbeats 8000000 in
set_option maxRecDepth 100000 in
theorem mul64_spec [Orc] {B : Nat} {H : Heap} {n : Int} (hB : B ≤ H.n) (h0 : 0 ≤ n) (h7 : n ≤ 7) :
    CallB Try.prog B 137 [.int .u64 1, .int .u64 n] H (fun v H' => v = .tuple #[.int .u64 0, .int .u64 n] ∧ H' = H) := by
  refine CV.enter callees false (Orc.hv rfl rfl) Try.func137 rfl (by kernel_rfl) (Nat.le_of_ble_eq_true rfl) hB ?_ (Orc.hw rfl rfl)
  repeat' first
    | refine CO.cons rfl ?_
    | refine CO.nil ?_
    | refine CV.seq ?_
    | refine CV.region callees ?_
    | refine CV.ret ?_
    | (refine ⟨_, fun tm ha => step1_bits (.inr (.inl rfl)) rfl (ev_tmp ha rfl) rfl (and7 (by omega) (by omega)) rfl, ?_⟩)
    | (refine ⟨.int .u64 0, fun tm ha => shr7 rfl (ev_tmp ha rfl) rfl (by omega) (by omega), ?_⟩)
    | (intro r hr; have hr2 := hr.trans (wrapU (by omega) (by omega)); subst hr2; clear hr)
    | fail
  refine ⟨rfl, ?_, rfl⟩
  simp
set_option maxRecDepth 100000 in
theorem mul_spec [Orc] {B : Nat} {H : Heap} {n : Int} (hB : B ≤ H.n) (h0 : 0 ≤ n) (h7 : n ≤ 7) :
    CallB Try.prog B 125 [.int .u64 1, .int .u64 n] H (fun v H' => v = .tuple #[.int .u64 0, .int .u64 n] ∧ H' = H) := by
  refine CV.enter callees false (Orc.hv rfl rfl) Try.func125 rfl (by kernel_rfl) (Nat.le_of_ble_eq_true rfl) hB ?_ (Orc.hw rfl rfl)
  repeat' first
    | refine CO.cons rfl ?_
    | refine CO.nil ?_
    | refine CV.seq ?_
    | refine CV.region callees ?_
    | refine CV.cond ?_
    | refine CV.skip ?_
    | fail
  refine (mul64_spec hB h0 h7).mono ?_
  rintro v H1 ⟨rfl, rfl⟩
  repeat' first
    | refine CO.cons rfl ?_
    | refine CO.nil ?_
    | refine CV.seq ?_
    | refine CV.region callees ?_
    | refine CV.ret ?_
    | fail
  exact ⟨rfl, rfl, rfl⟩
abbrev sT : TypeId := 23
abbrev sS : TypeId := 43
theorem unSs2 : Try.prog.underlying sS = some (.slice sT) := by kernel_rfl
def spF (N k : Nat) (a b : Int) : List Value := (List.replicate k [VI a, VI b]).flatten ++ (List.replicate (N - k) [VI 0, VI 0]).flatten
theorem spF_len {N k : Nat} {a b : Int} (h : k ≤ N) : (spF N k a b).length = N * 2 := by
  unfold spF
  simp
  omega
theorem makeSp {H : Heap} {N : Nat} (h : N ≤ 7) : amakeSlice Try.prog H sS (VI N) (VI N) = some (.slice (some ⟨H.n, 0, none⟩) N 0, H.new (.cells (spF N 0 0 0) sT 2), H.n) := by
  rcases (by omega : N = 0 ∨ N = 1 ∨ N = 2 ∨ N = 3 ∨ N = 4 ∨ N = 5 ∨ N = 6 ∨ N = 7) with rfl | rfl | rfl | rfl | rfl | rfl | rfl | rfl <;> kernel_rfl
theorem spF_zero {N : Nat} {a b : Int} : spF N 0 0 0 = spF N 0 a b := rfl
theorem rep_step {N k : Nat} {a b : Int} (h1 : 1 ≤ k) (h2 : k < N) (h7 : N ≤ 7) : splice (spF N k a b) (k * 2) (((spF N k a b).take (k * 2)).take (min k (N - k) * 2)) = spF N (k + min k (N - k)) a b := by
  rcases (by omega : N = 2 ∨ N = 3 ∨ N = 4 ∨ N = 5 ∨ N = 6 ∨ N = 7) with rfl | rfl | rfl | rfl | rfl | rfl <;>
    rcases (by omega : k = 1 ∨ k = 2 ∨ k = 3 ∨ k = 4 ∨ k = 5 ∨ k = 6) with rfl | rfl | rfl | rfl | rfl | rfl <;> first | rfl | omega
theorem rep_first {N : Nat} {a b : Int} (h7 : N ≤ 7) : splice (spF N 0 a b) 0 ([VI a, VI b].take (min 1 N * 2)) = spF N (min 1 N) a b := by
  rcases (by omega : N = 0 ∨ N = 1 ∨ N = 2 ∨ N = 3 ∨ N = 4 ∨ N = 5 ∨ N = 6 ∨ N = 7) with rfl | rfl | rfl | rfl | rfl | rfl | rfl | rfl <;> rfl
abbrev Spl (p : Int × Int) : List Value := [VI p.1, VI p.2]
theorem spF_all {N : Nat} {a b : Int} : spF N N a b = ((List.replicate N (a, b)).map Spl).flatten := by
  unfold spF
  rw [Nat.sub_self]
  simp
theorem sp_len {X : Heap} {b n c : Nat} : alen Try.prog X sS (.slice (some ⟨b, 0, none⟩) n c) = some (VI n) := by simp [alen, unSs2]
theorem sp_cutL {b n : Nat} {k : Nat} (h0 : 0 < k) (h1 : k < n) : aslice Try.prog sS (.slice (some ⟨b, 0, none⟩) n 0) (some (some (VI k))) none = some (.slice (some ⟨b, k * 2, none⟩) (n - k) k) := by
  have e1 : (k : Int) ≠ 0 := by omega
  have e2 : (k : Int) ≠ n := by omega
  have e3 : ((n : Int) - k).toNat = n - k := by omega
  simp only [aslice, unSs2, szSp, bound]
  rw [if_pos ⟨by omega, by omega, by omega⟩, if_neg e1, if_neg e2, e3]
  simp
theorem sp_cutR {b n : Nat} {k : Nat} (h1 : k ≤ n) : aslice Try.prog sS (.slice (some ⟨b, 0, none⟩) n 0) none (some (some (VI k))) = some (.slice (some ⟨b, 0, none⟩) k 0) := by
  simp [aslice, unSs2, szSp, bound, h1]
set_option maxHeartbeats 8000000 in
set_option maxRecDepth 100000 in
theorem repeat_spec [Orc] {B N : Nat} {H : Heap} {xv : Value} {a b : Int} (hB : B ≤ H.n) (hr : RowS 2 H xv [[VI a, VI b]]) (h7 : N ≤ 7) :
    CallB Try.prog B 80 [xv, VI N] H (fun r H' => (∃ q, r = .slice (some ⟨q, 0, none⟩) N 0 ∧ H.n ≤ q ∧ q < H'.n ∧ H'.get q = some (.cells ((List.replicate N (a, b)).map Spl).flatten sT 2)) ∧ Keep H H') := by
  have hlen : alen Try.prog H sS xv = some (VI 1) := hr.alen unSs2
  refine CV.enter callees false (Orc.hv rfl rfl) Try.func80 rfl (by kernel_rfl) (Nat.le_of_ble_eq_true rfl) hB ?_ (Orc.hw rfl rfl)
  repeat' first
    | refine CO.cons rfl ?_
    | refine CO.nil ?_
    | refine CV.seq ?_
    | refine CV.region callees ?_
    | refine CV.cond ?_
    | refine CV.skip ?_
    | (refine ⟨_, hlen, ?_⟩)
    | (refine ⟨_, fun tm ha => convU un3 unUi rfl (ev_tmp ha rfl) (by omega) (by omega), ?_⟩)
    | (refine ⟨fun _ => ?_, fun _ => ?_⟩ <;> first | (exfalso; omega) | skip)
    | fail
  refine (mul_spec (n := (N : Int)) hB (by omega) (by omega)).mono ?_
  rintro v H1 ⟨rfl, rfl⟩
  have hsrc := hr.source
  repeat' first
    | refine CO.cons rfl ?_
    | refine CO.nil ?_
    | refine CV.seq ?_
    | refine CV.region callees ?_
    | refine CV.cond ?_
    | refine CV.skip ?_
    | refine CO.consG rfl ?_
    | (refine ⟨_, fun tm ha => convI unUi un3 rfl (ev_tmp ha rfl) (by omega) (by omega), ?_⟩)
    | (refine ⟨_, _, makeSp h7, ?_⟩)
    | (refine ⟨fun _ => ?_, fun _ => ?_⟩ <;> first | (exfalso; omega) | skip)
    | fail
  generalize hs2 : Heap.new H1 _ = H2
  have hg2 := new_get hs2
  have k2 := new_keep hs2
  have n2 := new_n hs2
  obtain ⟨b2, hbn2⟩ : ∃ b, Heap.n H1 = b := ⟨_, rfl⟩
  rw [hbn2] at hg2 n2 ⊢
  have hr2 := hr.keep k2
  rw [spF_zero (a := a) (b := b)] at hg2
  have hcp : acopy Try.prog H2 [sS, sS] (.slice (some ⟨b2, 0, none⟩) N 0) xv = some (VI (min 1 N : Nat), H2.set b2 (.cells (spF N (min 1 N) a b) sT 2), b2) := by
    have hs2 := hr2.source
    simp only [acopy, unSs2, szSp, hs2, hg2]
    rw [if_pos (by rw [spF_len (Nat.zero_le _)]; simp; omega)]
    have := rep_first (N := N) (a := a) (b := b) h7
    simp only [List.flatten_cons, List.flatten_nil, List.append_nil, List.length_cons, List.length_nil] at *
    rw [this]
  repeat' first
    | fail
  refine ⟨_, _, _, hcp, by omega, ?_⟩
  generalize hs3 : Heap.set H2 b2 _ = H3
  have hg3 : H3.get b2 = some (.cells (spF N (min 1 N) a b) sT 2) := set_get hs3
  have n3 := set_n hs3
  have o3 := set_old hs3
  have k3 : Keep H1 H3 := keep_put k2 (by omega) o3 n3
  repeat' first
    | refine CO.cons rfl ?_
    | refine CO.nil ?_
    | refine CV.seq ?_
    | refine CV.block ?_
    | fail
  refine CV.loopc ?_
  refine WCv.rounds callees false (α := Nat) (fun k => [(7, .slice (some ⟨b2, 0, none⟩) N 0), (8, VI k)]) (fun k Hz => k ≤ N ∧ (0 < N → 0 < k) ∧ Hz.get b2 = some (.cells (spF N k a b) sT 2) ∧ Keep H1 Hz ∧ b2 < Hz.n) (fun k => N - k) ((min 1 N)) (by repeat' first | exact trivial | refine ⟨rfl, ?_⟩ | refine ⟨slot_int (by (try simp only [Int.toNat_natCast]); omega), ?_⟩) ?_ ?_
  · exact ⟨by omega, by omega, hg3, k3, by omega⟩
  clear hg3 k3 n3 o3 hcp
  rintro k Hx ⟨hk, hk0, hgx, kx, lx⟩ hBx
  by_cases hkn : k < N
  · have hcp : acopy Try.prog Hx [sS, sS] (.slice (some ⟨b2, k * 2, none⟩) (N - k) k) (.slice (some ⟨b2, 0, none⟩) k 0) = some (VI (min k (N - k) : Nat), Hx.set b2 (.cells (spF N (k + min k (N - k)) a b) sT 2), b2) := by
      have hl := spF_len (a := a) (b := b) hk
      have hs2 : sourceOf Hx 2 (.slice (some ⟨b2, 0, none⟩) k 0) = some ((spF N k a b).take (k * 2), k) := by
        simp only [sourceOf, hgx]
        rw [if_pos (by omega)]
        simp
      simp only [acopy, unSs2, szSp, hs2, hgx]
      rw [if_pos (by omega), rep_step (by omega) hkn h7]
    repeat' first
      | refine CO.cons rfl ?_
      | refine CO.nil ?_
      | refine CV.seq ?_
      | refine CV.region callees ?_
      | refine CV.cond ?_
      | refine CV.block ?_
      | refine CV.skip ?_
      | refine CV.draw callees (by decide +kernel) ?_
      | refine CH.cons rfl ?_
      | refine CH.nil ?_
      | (refine ⟨_, sp_len, ?_⟩)
      | (refine ⟨_, sp_cutL (by omega) hkn, ?_⟩)
      | (refine ⟨_, sp_cutR hk, ?_⟩)
      | (refine ⟨fun _ => ?_, fun _ => ?_⟩ <;> first | (exfalso; omega) | skip)
      | fail
    refine ⟨_, _, _, hcp, by omega, ?_⟩
    generalize hs4 : Heap.set Hx b2 _ = H4
    have hg4 : H4.get b2 = some (.cells (spF N (k + min k (N - k)) a b) sT 2) := set_get hs4
    have n4 := set_n hs4
    have o4 := set_old hs4
    have hii : (k : Int) + ((min k (N - k) : Nat) : Int) = ((k + min k (N - k) : Nat) : Int) := by omega
    repeat' first
      | refine CO.cons rfl ?_
      | refine CO.nil ?_
      | refine CH.nil ?_
      | refine ⟨(⟨by omega, by omega⟩ : inI64 _), ?_⟩
      | fail
    rw [hii]
    refine ⟨(k + min k (N - k)), (by repeat' first | exact trivial | refine ⟨rfl, ?_⟩ | refine ⟨slot_int (by (try simp only [Int.toNat_natCast]); omega), ?_⟩), (by (try dsimp only); omega), ?_⟩
    exact ⟨by omega, by omega, hg4, keep_put kx (by omega) o4 n4, by omega⟩
  obtain rfl : k = N := by omega
  repeat' first
    | refine CO.cons rfl ?_
    | refine CO.nil ?_
    | refine CV.seq ?_
    | refine CV.region callees ?_
    | refine CV.cond ?_
    | refine CV.exit ?_
    | refine CV.ret ?_
    | (refine ⟨_, sp_len, ?_⟩)
    | (refine ⟨fun _ => ?_, fun _ => ?_⟩ <;> first | (exfalso; omega) | skip)
    | fail
  exact ⟨rfl, ⟨b2, rfl, by omega, lx, by rw [hgx, spF_all]⟩, kx⟩
end Go.Proofs.Ytijimplcjaeneaa

