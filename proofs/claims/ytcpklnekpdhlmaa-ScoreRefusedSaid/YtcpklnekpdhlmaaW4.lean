/- Several texts in one. -/
import Derived.Test.YtcpklnekpdhlmaaW3
import Derived.Test.YtcpklnekpdhlmaaX4
set_option linter.unusedVariables false
set_option linter.unusedSimpArgs false

/- Marks ws numbers; one number that is changed moves one packet at most. -/
namespace Go.Proofs.Ytcpklnekpdhlmaa
open Go.AI
theorem Stay.one {a b : List Int} {m k : Nat} (h : Stay a b m) (g : Stay a b k) : m = k := by
  obtain ⟨t, h1, h2, rfl⟩ := h.has
  obtain ⟨u, g1, g2, rfl⟩ := g.has
  have := h.top u g1 g2
  have := g.top t h1 h2
  omega

/-- Something is written. -/
def wrt (ws : List Int) (i : Nat) : Bool := decide (ws[i]! ≠ -1)
/-- A pair is right. -/
def prR (ts ws : List Int) (k i : Nat) : Bool := decide (ws[i]! = ws[k]!) == decide (ts[i]! = ts[k]!)
def rtN (ts ws : List Int) (k : Nat) : Nat → Nat
  | 0 => 0
  | i + 1 => rtN ts ws k i + if wrt ws i = true ∧ prR ts ws k i = true then 1 else 0
def wgN (ts ws : List Int) (k : Nat) : Nat → Nat
  | 0 => 0
  | i + 1 => wgN ts ws k i + if wrt ws i = true ∧ prR ts ws k i = false then 1 else 0
def pkN (ts ws : List Int) : Nat → Nat
  | 0 => 0
  | i + 1 => pkN ts ws i + if wrt ws i = true ∧ wgN ts ws i i = 0 then 1 else 0
def wrN (ts ws : List Int) : Nat → Nat
  | 0 => 0
  | i + 1 => wrN ts ws i + if wrt ws i = true ∧ wgN ts ws i i ≠ 0 then 1 else 0
def prN (ts ws : List Int) : Nat → Nat
  | 0 => 0
  | i + 1 => prN ts ws i + if wrt ws i = true then rtN ts ws i i else 0
theorem pk_le (ts ws : List Int) : ∀ i, pkN ts ws i + wrN ts ws i ≤ i
  | 0 => Nat.le_refl _
  | i + 1 => by
    have := pk_le ts ws i
    rw [pkN, wrN]
    by_cases h : wgN ts ws i i = 0 <;> cases wrt ws i <;> simp [h] <;> omega
/-- The honour of an answer. -/
def Hon (ts ws : List Int) (h : Int) : Prop := (-1 ∈ ws ∧ h = 0) ∨ (-1 ∉ ws ∧ ∃ m : Nat, Stay (num ws []) ts m ∧ h = max (3 - ((ws.length : Int) - m)) 0)
theorem Hon.one {ts ws : List Int} {h k : Int} (a : Hon ts ws h) (b : Hon ts ws k) : h = k := by
  rcases a with ⟨a1, a2⟩ | ⟨a1, m, a2, a3⟩ <;> rcases b with ⟨b1, b2⟩ | ⟨b1, n, b2, b3⟩
  · omega
  · exact absurd a1 b1
  · exact absurd b1 a1
  · rw [a2.one b2] at a3; omega
/-- All its numbers differ. -/
def Dist (l : List Int) : Prop := ∀ a b, a < l.length → b < l.length → l[a]! = l[b]! → a = b
/-- The numbers below n in some order. -/
def OrderL (l : List Int) : Prop := Dist l ∧ ∀ a, a < l.length → 0 ≤ l[a]! ∧ l[a]! < l.length
theorem OrderL.push {l : List Int} (h : OrderL l) : OrderL (l ++ [(l.length : Int)]) := by
  have g1 : ∀ a, a < l.length → (l ++ [(l.length : Int)])[a]! = l[a]! := fun a ha => by
    rw [getElem!_pos _ a (by simp; omega), List.getElem_append_left ha, getElem!_pos l a ha]
  have g2 : (l ++ [(l.length : Int)])[l.length]! = l.length := by
    rw [getElem!_pos _ _ (by simp)]; simp
  refine ⟨fun a b ha hb e => ?_, fun a ha => ?_⟩
  · rw [List.length_append, List.length_singleton] at ha hb
    by_cases h1 : a < l.length <;> by_cases h2 : b < l.length
    · rw [g1 a h1, g1 b h2] at e; exact h.1 a b h1 h2 e
    · have hb' : b = l.length := by omega
      subst hb'
      rw [g1 a h1, g2] at e
      have := h.2 a h1; omega
    · have ha' : a = l.length := by omega
      subst ha'
      rw [g1 b h2, g2] at e
      have := h.2 b h2; omega
    · omega
  · rw [List.length_append, List.length_singleton] at ha ⊢
    by_cases h1 : a < l.length
    · rw [g1 a h1]; have := h.2 a h1; omega
    · have ha' : a = l.length := by omega
      subst ha'
      rw [g2]; omega
end Go.Proofs.Ytcpklnekpdhlmaa



/- Lists of numbers that hold one; scorings that are valid; answers that are. -/
namespace Go.Proofs.Ytcpklnekpdhlmaa
open Go.AI
set_option maxRecDepth 100000 in
theorem written_spec {B : Nat} {H : Heap} {n : Int} (hB : B ≤ H.n) :
    CallB Try.prog B 66 [.int .i64 n] H (fun r H' => r = .bool (decide (n ≠ -1)) ∧ H' = H) := by
  refine CV.enter callees false rfl Try.func66 rfl (by kernel_rfl) (Nat.le_of_ble_eq_true rfl) hB ?_
  repeat' first
    | refine CO.cons rfl ?_
    | refine CO.nil ?_
    | refine CV.seq ?_
    | refine CV.region callees ?_
    | refine CV.cond ?_
    | refine CV.block ?_
    | refine CV.skip ?_
    | refine CV.exit ?_
    | refine CV.ret ?_
    | refine CV.scope ?_
    | refine CV.draw callees rfl ?_
    | refine CH.cons rfl ?_
    | refine CH.nil ?_
    | refine CO.consG rfl ?_
    | refine CH.consG rfl ?_
    | refine CG.cons rfl ?_
    | refine CR.cons ?_
    | refine CR.nil ?_
    | refine CG.nil ?_
    | refine CG.consG rfl ?_
    | refine ⟨(rfl : plain _ = true), ?_⟩
    | refine ⟨(rfl : nilOk _ = some _), ?_⟩
    | refine ⟨_, ints_len (by assumption), ?_⟩
    | refine ⟨_, ints_addr (by assumption) (by omega) (by omega), ?_⟩
    | refine ⟨_, ints_load (by assumption) (by omega) (by omega), ?_⟩
    | refine ⟨(⟨by omega, by omega⟩ : inI64 _), ?_⟩
    | refine ⟨_, fun tm ha => step1_max rfl (ev_tmp ha rfl) (ev_tmp ha rfl), ?_⟩
    | refine ⟨_, fun tm ha => step1_min rfl (ev_tmp ha rfl) (ev_tmp ha rfl), ?_⟩
    | (refine ⟨fun _ => ?_, fun _ => ?_⟩ <;> first | (exfalso; omega) | skip)
    | fail
  all_goals first
    | (refine ⟨rfl, ?_, rfl⟩; simp; omega)
    | (refine ⟨rfl, ?_, rfl⟩; congr 1; simp; try omega)
/-- A number of an answer. -/
def okN (n : Int) : Bool := decide (-1 ≤ n) && decide (n < 9)
set_option maxRecDepth 100000 in
theorem number_spec {B : Nat} {H : Heap} {n : Int} (hB : B ≤ H.n) :
    CallB Try.prog B 74 [.int .i64 n] H (fun r H' => r = .bool (okN n) ∧ H' = H) := by
  refine CV.enter callees false rfl Try.func74 rfl (by kernel_rfl) (Nat.le_of_ble_eq_true rfl) hB ?_
  repeat' first
    | refine CO.cons rfl ?_
    | refine CO.nil ?_
    | refine CV.seq ?_
    | refine CV.region callees ?_
    | refine CV.cond ?_
    | refine CV.block ?_
    | refine CV.skip ?_
    | refine CV.exit ?_
    | refine CV.ret ?_
    | refine CV.scope ?_
    | refine CV.draw callees rfl ?_
    | refine CH.cons rfl ?_
    | refine CH.nil ?_
    | refine CO.consG rfl ?_
    | refine CH.consG rfl ?_
    | refine CG.cons rfl ?_
    | refine CR.cons ?_
    | refine CR.nil ?_
    | refine CG.nil ?_
    | refine CG.consG rfl ?_
    | refine ⟨(rfl : plain _ = true), ?_⟩
    | refine ⟨(rfl : nilOk _ = some _), ?_⟩
    | refine ⟨_, ints_len (by assumption), ?_⟩
    | refine ⟨_, ints_addr (by assumption) (by omega) (by omega), ?_⟩
    | refine ⟨_, ints_load (by assumption) (by omega) (by omega), ?_⟩
    | refine ⟨(⟨by omega, by omega⟩ : inI64 _), ?_⟩
    | refine ⟨_, fun tm ha => step1_max rfl (ev_tmp ha rfl) (ev_tmp ha rfl), ?_⟩
    | refine ⟨_, fun tm ha => step1_min rfl (ev_tmp ha rfl) (ev_tmp ha rfl), ?_⟩
    | (refine ⟨fun _ => ?_, fun _ => ?_⟩ <;> first | (exfalso; omega) | skip)
    | fail
  all_goals (refine ⟨rfl, ?_, rfl⟩; unfold okN; simp; try omega)
/-- The first error of an answer. -/
def ansE (ws : List Int) (n : Int) : Int := if (ws.length : Int) ≠ n then 3 else if ws.all okN then 0 else 2
set_option maxRecDepth 100000 in
theorem checkAnswer_spec {B : Nat} {H : Heap} {v : Value} {ws : List Int} {n : Int} (hB : B ≤ H.n) (hv : Ints H v ws) (hl : ws.length ≤ 1000000000) :
    CallB Try.prog B 53 [v, .int .i64 n] H (fun r H' => r = .int .i64 (ansE ws n) ∧ H' = H) := by
  refine CV.enter callees false rfl Try.func53 rfl (by kernel_rfl) (Nat.le_of_ble_eq_true rfl) hB ?_
  repeat' first
    | refine CO.cons rfl ?_
    | refine CO.nil ?_
    | refine CV.seq ?_
    | refine CV.region callees ?_
    | refine CV.cond ?_
    | refine CV.block ?_
    | refine CV.skip ?_
    | refine CV.exit ?_
    | refine CV.ret ?_
    | refine CV.scope ?_
    | refine CV.draw callees rfl ?_
    | refine CH.cons rfl ?_
    | refine CH.nil ?_
    | refine CO.consG rfl ?_
    | refine CH.consG rfl ?_
    | refine CG.cons rfl ?_
    | refine CR.cons ?_
    | refine CR.nil ?_
    | refine CG.nil ?_
    | refine CG.consG rfl ?_
    | refine ⟨(rfl : plain _ = true), ?_⟩
    | refine ⟨(rfl : nilOk _ = some _), ?_⟩
    | refine ⟨_, ints_len (by assumption), ?_⟩
    | refine ⟨_, ints_addr (by assumption) (by omega) (by omega), ?_⟩
    | refine ⟨_, ints_load (by assumption) (by omega) (by omega), ?_⟩
    | refine ⟨(⟨by omega, by omega⟩ : inI64 _), ?_⟩
    | refine ⟨_, fun tm ha => step1_max rfl (ev_tmp ha rfl) (ev_tmp ha rfl), ?_⟩
    | refine ⟨_, fun tm ha => step1_min rfl (ev_tmp ha rfl) (ev_tmp ha rfl), ?_⟩
    | (refine ⟨fun _ => ?_, fun _ => ?_⟩ <;> first | (exfalso; omega) | skip)
    | fail
  · exact ⟨rfl, by rw [ansE, if_pos (by assumption)], rfl⟩
  rename_i h0
  have e0 : ansE ws n = if ws.all okN then 0 else 2 := by rw [ansE, if_neg h0]
  refine CV.loopc ?_
  refine WCv.rounds callees false (α := Nat) (fun i => [(1, .int .i64 n), (11, v), (12, .int .i64 ws.length), (13, .int .i64 i)]) (fun i Hz => Hz = H ∧ i ≤ ws.length ∧ ∀ j, j < i → okN ws[j]! = true) (fun i => ws.length - i) (0) (by repeat' first | exact trivial | refine ⟨rfl, ?_⟩ | refine ⟨slot_int (by (try simp only [Int.toNat_natCast]); omega), ?_⟩) ?_ ?_
  · exact ⟨rfl, by omega, fun j hj => by omega⟩
  rintro i Hx ⟨rfl, hi, ha⟩ hBx
  by_cases hi2 : i < ws.length
  · have hxi : ws[(i : Int).toNat]! = ws[i]! := rfl
    repeat' first
      | refine CO.cons rfl ?_
      | refine CO.nil ?_
      | refine CV.seq ?_
      | refine CV.region callees ?_
      | refine CV.cond ?_
      | refine CV.block ?_
      | refine CV.skip ?_
      | refine CV.exit ?_
      | refine CV.ret ?_
      | refine CV.scope ?_
      | refine CV.draw callees rfl ?_
      | refine CH.cons rfl ?_
      | refine CH.nil ?_
      | refine CO.consG rfl ?_
      | refine CH.consG rfl ?_
      | refine CG.cons rfl ?_
      | refine CR.cons ?_
      | refine CR.nil ?_
      | refine CG.nil ?_
      | refine CG.consG rfl ?_
      | refine ⟨(rfl : plain _ = true), ?_⟩
      | refine ⟨(rfl : nilOk _ = some _), ?_⟩
      | refine ⟨_, ints_len (by assumption), ?_⟩
      | refine ⟨_, ints_addr (by assumption) (by omega) (by omega), ?_⟩
      | refine ⟨_, ints_load (by assumption) (by omega) (by omega), ?_⟩
      | refine ⟨(⟨by omega, by omega⟩ : inI64 _), ?_⟩
      | refine ⟨_, fun tm ha => step1_max rfl (ev_tmp ha rfl) (ev_tmp ha rfl), ?_⟩
      | refine ⟨_, fun tm ha => step1_min rfl (ev_tmp ha rfl) (ev_tmp ha rfl), ?_⟩
      | (refine ⟨fun _ => ?_, fun _ => ?_⟩ <;> first | (exfalso; omega) | skip)
      | fail
    rw [hxi]
    refine (number_spec hBx).mono ?_
    rintro r H1 ⟨rfl, rfl⟩
    cases hok : okN ws[i]! with
    | false =>
      repeat' first
        | refine CO.cons rfl ?_
        | refine CO.nil ?_
        | refine CV.seq ?_
        | refine CV.region callees ?_
        | refine CV.cond ?_
        | refine CV.block ?_
        | refine CV.skip ?_
        | refine CV.exit ?_
        | refine CV.ret ?_
        | refine CV.scope ?_
        | refine CV.draw callees rfl ?_
        | refine CH.cons rfl ?_
        | refine CH.nil ?_
        | refine CO.consG rfl ?_
        | refine CH.consG rfl ?_
        | refine CG.cons rfl ?_
        | refine CR.cons ?_
        | refine CR.nil ?_
        | refine CG.nil ?_
        | refine CG.consG rfl ?_
        | refine ⟨(rfl : plain _ = true), ?_⟩
        | refine ⟨(rfl : nilOk _ = some _), ?_⟩
        | refine ⟨_, ints_len (by assumption), ?_⟩
        | refine ⟨_, ints_addr (by assumption) (by omega) (by omega), ?_⟩
        | refine ⟨_, ints_load (by assumption) (by omega) (by omega), ?_⟩
        | refine ⟨(⟨by omega, by omega⟩ : inI64 _), ?_⟩
        | refine ⟨_, fun tm ha => step1_max rfl (ev_tmp ha rfl) (ev_tmp ha rfl), ?_⟩
        | refine ⟨_, fun tm ha => step1_min rfl (ev_tmp ha rfl) (ev_tmp ha rfl), ?_⟩
        | (refine ⟨fun _ => ?_, fun _ => ?_⟩ <;> first | (exfalso; omega) | skip)
        | fail
      refine ⟨rfl, ?_, rfl⟩
      have : ws.all okN = false := by
        rw [List.all_eq_false]
        exact ⟨ws[i]!, by rw [getElem!_pos ws i hi2]; exact List.getElem_mem _, by rw [hok]; simp⟩
      rw [e0, this]; rfl
    | true =>
      repeat' first
        | refine CO.cons rfl ?_
        | refine CO.nil ?_
        | refine CV.seq ?_
        | refine CV.region callees ?_
        | refine CV.cond ?_
        | refine CV.block ?_
        | refine CV.skip ?_
        | refine CV.exit ?_
        | refine CV.ret ?_
        | refine CV.scope ?_
        | refine CV.draw callees rfl ?_
        | refine CH.cons rfl ?_
        | refine CH.nil ?_
        | refine CO.consG rfl ?_
        | refine CH.consG rfl ?_
        | refine CG.cons rfl ?_
        | refine CR.cons ?_
        | refine CR.nil ?_
        | refine CG.nil ?_
        | refine CG.consG rfl ?_
        | refine ⟨(rfl : plain _ = true), ?_⟩
        | refine ⟨(rfl : nilOk _ = some _), ?_⟩
        | refine ⟨_, ints_len (by assumption), ?_⟩
        | refine ⟨_, ints_addr (by assumption) (by omega) (by omega), ?_⟩
        | refine ⟨_, ints_load (by assumption) (by omega) (by omega), ?_⟩
        | refine ⟨(⟨by omega, by omega⟩ : inI64 _), ?_⟩
        | refine ⟨_, fun tm ha => step1_max rfl (ev_tmp ha rfl) (ev_tmp ha rfl), ?_⟩
        | refine ⟨_, fun tm ha => step1_min rfl (ev_tmp ha rfl) (ev_tmp ha rfl), ?_⟩
        | (refine ⟨fun _ => ?_, fun _ => ?_⟩ <;> first | (exfalso; omega) | skip)
        | fail
      refine ⟨(i + 1), (by repeat' first | exact trivial | refine ⟨rfl, ?_⟩ | refine ⟨slot_int (by (try simp only [Int.toNat_natCast]); omega), ?_⟩), (by (try dsimp only); omega), ?_⟩
      refine ⟨rfl, by omega, fun j hj => ?_⟩
      by_cases h : j < i
      · exact ha j h
      · rw [show j = i by omega]; exact hok
  · have hil : i = ws.length := by omega
    have : ws.all okN = true := by
      rw [List.all_eq_true]
      intro x hx
      obtain ⟨j, hj, rfl⟩ := List.getElem_of_mem hx
      have := ha j (by omega)
      rwa [getElem!_pos ws j hj] at this
    repeat' first
      | refine CO.cons rfl ?_
      | refine CO.nil ?_
      | refine CV.seq ?_
      | refine CV.region callees ?_
      | refine CV.cond ?_
      | refine CV.block ?_
      | refine CV.skip ?_
      | refine CV.exit ?_
      | refine CV.ret ?_
      | refine CV.scope ?_
      | refine CV.draw callees rfl ?_
      | refine CH.cons rfl ?_
      | refine CH.nil ?_
      | refine CO.consG rfl ?_
      | refine CH.consG rfl ?_
      | refine CG.cons rfl ?_
      | refine CR.cons ?_
      | refine CR.nil ?_
      | refine CG.nil ?_
      | refine CG.consG rfl ?_
      | refine ⟨(rfl : plain _ = true), ?_⟩
      | refine ⟨(rfl : nilOk _ = some _), ?_⟩
      | refine ⟨_, ints_len (by assumption), ?_⟩
      | refine ⟨_, ints_addr (by assumption) (by omega) (by omega), ?_⟩
      | refine ⟨_, ints_load (by assumption) (by omega) (by omega), ?_⟩
      | refine ⟨(⟨by omega, by omega⟩ : inI64 _), ?_⟩
      | refine ⟨_, fun tm ha => step1_max rfl (ev_tmp ha rfl) (ev_tmp ha rfl), ?_⟩
      | refine ⟨_, fun tm ha => step1_min rfl (ev_tmp ha rfl) (ev_tmp ha rfl), ?_⟩
      | (refine ⟨fun _ => ?_, fun _ => ?_⟩ <;> first | (exfalso; omega) | skip)
      | fail
    exact ⟨rfl, by rw [e0, this]; rfl, rfl⟩
/-- One cell of a variable. -/
theorem cell_load {H : Heap} {b i : Nat} {cs : List Value} {e t : TypeId} {k : Nat} {x : Value} (ha : isAggB Try.prog t = some false) (hg : H.get b = some (.cells cs e k)) (hx : cs[i]? = some x) : aload Try.prog t H (.pointer (some ⟨b, i, none⟩)) = some x := by
  simp [aload, hg, ha, hx]
theorem ag22 : isAggB Try.prog 22 = some false := by kernel_rfl
/-- Keys from a place on. -/
def ckK (ks : List Int) : Nat → Nat → Int
  | 0, _ => 0
  | m + 1, i => if ks[i]! < 1 ∨ 6 < ks[i]! then 4 else if ks[i]! ∈ ks.take i then 9 else ckK ks m (i + 1)
def ptsOk (a c w n l : Int) : Prop := (0 ≤ a ∧ a ≤ 1000) ∧ (0 ≤ c ∧ c ≤ 1000) ∧ (0 ≤ w ∧ w ≤ 1000) ∧ (0 ≤ n ∧ n ≤ 1000) ∧ 0 ≤ l ∧ l ≤ 1000
instance (a c w n l : Int) : Decidable (ptsOk a c w n l) := by unfold ptsOk; infer_instance
/-- The first error of a scoring. -/
def scE (a c w n l : Int) (ks : List Int) : Int := if ¬ ptsOk a c w n l then 2 else if 6 < ks.length then 8 else ckK ks ks.length 0
end Go.Proofs.Ytcpklnekpdhlmaa



/- Scorings that are valid. -/
namespace Go.Proofs.Ytcpklnekpdhlmaa
open Go.AI
def p5 (a c w n l : Int) (i : Nat) : Int := match i with
  | 0 => a
  | 1 => c
  | 2 => w
  | 3 => n
  | _ => l
end Go.Proofs.Ytcpklnekpdhlmaa



/- Pairs, new ones that are heard, the honour. -/
namespace Go.AI
theorem row_slice_lo {P : Program} {H : Heap} {t e : TypeId} {v : Value} {vs : List Value} {i : Int} {kd : IntKind} (ht : P.underlying t = some (.slice e)) (hs : sizeB P e = some 1) (hv : Row H v vs) (h0 : 0 ≤ i) (h1 : i ≤ vs.length) :
    ∃ r, aslice P t v (some (some (.int kd i))) none = some r ∧ Row H r (vs.drop i.toNat) := by
  rcases hv with ⟨rfl, rfl⟩ | ⟨rfl, rfl⟩ | ⟨b, o, c, cs, e', k, rfl, h2, h3, h4, h5, h6⟩
  · simp at h1
    have : i = 0 := by omega
    subst this
    exact ⟨.slice none 0 0, by simp [aslice, ht, hs, bound], .inl ⟨rfl, by simp⟩⟩
  · simp at h1
    have : i = 0 := by omega
    subst this
    exact ⟨anon, by simp [aslice, anon, ht, hs, bound], .inr (.inl ⟨rfl, by simp⟩)⟩
  · by_cases hz : i = 0
    · subst hz
      exact ⟨.slice (some ⟨b, o, none⟩) vs.length c, by simp [aslice, ht, hs, bound], .inr (.inr ⟨b, o, c, cs, e', k, by simp, h2, h3, h4, by simpa using h5, by simpa using h6⟩)⟩
    · by_cases hl : i = vs.length
      · subst hl
        exact ⟨anon, by
          have hne : vs ≠ [] := fun h => hz (by rw [h]; rfl)
          simp [aslice, ht, hs, bound, hne], .inr (.inl ⟨rfl, by simp⟩)⟩
      · refine ⟨.slice (some ⟨b, o + i.toNat, none⟩) ((vs.length : Int) - i).toNat (c + i.toNat), by simp [aslice, ht, hs, bound, hz, hl, h0, h1], .inr (.inr ⟨b, o + i.toNat, c + i.toNat, cs, e', k, ?_, h2, h3, h4, ?_, ?_⟩)⟩
        · rw [List.length_drop]; congr 1; omega
        · rw [List.length_drop]; omega
        · intro j w hj
          rw [List.getElem?_drop] at hj
          have := h6 _ _ hj
          rwa [Nat.add_assoc]
end Go.AI
namespace Go.Proofs.Ytcpklnekpdhlmaa
open Go.AI
theorem slice_lo {K : Value → Prop} {H : Heap} {v : Value} {xs : List Int} {i : Int} (hv : Ints H v xs) (h0 : 0 ≤ i) (h1 : i ≤ xs.length) (hk : ∀ r, Ints H r (xs.drop i.toNat) → K r) :
    ∃ r, aslice Try.prog 22 v (some (some (.int .i64 i))) none = some r ∧ K r := by
  obtain ⟨r, h2, h3⟩ := row_slice_lo (kd := .i64) un22 sz3 hv h0 (by simpa using h1)
  exact ⟨r, h2, hk r (by rw [← List.map_drop] at h3; exact h3)⟩
end Go.Proofs.Ytcpklnekpdhlmaa

