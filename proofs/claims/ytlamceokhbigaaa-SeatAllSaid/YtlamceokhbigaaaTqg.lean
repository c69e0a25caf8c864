
/- All orders, as the reference lists them. -/
import Derived.Test.YtlamceokhbigaaaTog
set_option linter.unusedVariables false
set_option linter.unusedSimpArgs false
namespace Go.Proofs.Ytlamceokhbigaaa
open Go.AI
theorem un34 : Try.prog.underlying 34 = some (.slice 26) := by kernel_rfl
theorem one22 : oneBB Try.prog 26 = some (.slice none 0 0, 24) := by kernel_rfl
/-- A row of rows of ints. -/
structure LLs (H : Heap) (v : Value) (vs : List Value) (ls : List (List Int)) (B C : Nat) : Prop where
  own : Own 26 H v vs B
  len : vs.length = ls.length
  at' : ∀ i, i < ls.length → Own 3 H vs[i]! (ls[i]!.map VI) C
theorem own_apart {H : Heap} {v x : Value} {xs vs : List Value} {B C : Nat} (h : Own 3 H v xs B) (hx : Own 26 H x vs C) : ∀ c, blkOf v = some c → blkOf x ≠ some c := by
  intro c h1 h2
  rcases h with ⟨rfl, _⟩ | ⟨b, rfl, _, _, h4⟩
  · cases h1
  · rcases hx with ⟨rfl, _⟩ | ⟨b', rfl, _, _, g4⟩
    · cases h2
    · cases h1
      cases h2
      rw [h4] at g4
      cases g4
theorem own_but {H H' : Heap} {v x : Value} {xs vs : List Value} {B C : Nat} (h : Own 3 H v xs B) (hx : Own 26 H x vs C) (k : KeepBut x H H') : Own 3 H' v xs B := by
  have ha := own_apart h hx
  rcases h with h | ⟨b, rfl, h2, h3, h4⟩
  · exact .inl h
  · exact .inr ⟨b, rfl, h2, Nat.lt_of_lt_of_le h3 k.le, (k.get b h3 (ha b rfl)).trans h4⟩
theorem LLs.keep {H H' : Heap} {v : Value} {vs : List Value} {ls : List (List Int)} {B C : Nat} (h : LLs H v vs ls B C) (k : Keep H H') : LLs H' v vs ls B C := ⟨Own.keep h.own k, h.len, fun i hi => Own.keep (h.at' i hi) k⟩
theorem at_app {α : Type} [Inhabited α] {l m : List α} {i : Nat} (hi : i < (l ++ m).length) : (l ++ m)[i]! = if i < l.length then l[i]! else m[i - l.length]! := by
  rw [getElem!_pos (l ++ m) i hi]
  split
  · rename_i h
    rw [List.getElem_append_left h, getElem!_pos l i h]
  · rename_i h
    have h' : i - l.length < m.length := by rw [List.length_append] at hi; omega
    rw [List.getElem_append_right (by omega), getElem!_pos m _ h']
theorem LLs.app {H : Heap} {v : Value} {vs ws : List Value} {ls ms : List (List Int)} {B C : Nat} (ho : Own 26 H v (vs ++ ws) B) (h1 : vs.length = ls.length) (h2 : ws.length = ms.length) (a1 : ∀ i, i < ls.length → Own 3 H vs[i]! (ls[i]!.map VI) C) (a2 : ∀ i, i < ms.length → Own 3 H ws[i]! (ms[i]!.map VI) C) : LLs H v (vs ++ ws) (ls ++ ms) B C := by
  refine ⟨ho, by rw [List.length_append, List.length_append]; omega, fun i hi => ?_⟩
  rw [at_app hi, at_app (by rw [List.length_append] at hi ⊢; omega), h1]
  rw [List.length_append] at hi
  split
  · exact a1 i (by assumption)
  · exact a2 _ (by omega)
set_option maxRecDepth 100000 in
theorem seatRef_spec {B : Nat} {H : Heap} {v : Value} {xs : List Int} {t : Int} (hB : B ≤ H.n) (hv : Ints H v xs) (hn : xs.length < 1000000) :
    CallB Try.prog B 72 [v, VI t] H (fun r H' => (∃ k, r = VI k ∧ (k < 0 ↔ t ∉ xs)) ∧ Keep H H') := by
  refine CV.enter callees false rfl Try.func72 rfl (by kernel_rfl) (Nat.le_of_ble_eq_true rfl) hB ?_
  repeat' first
    | refine CO.cons rfl ?_
    | refine CO.nil ?_
    | refine CV.seq ?_
    | refine CV.region callees ?_
    | refine CV.block ?_
    | fail
  refine CV.loopc ?_
  refine WCv.rounds callees false (α := Nat) (fun i => [(0, v), (1, VI t), (5, VI i)]) (fun i Hz => i ≤ xs.length ∧ (∀ j, j < i → ¬ xs[j]! = t) ∧ Keep H Hz) (fun i => xs.length - i) (0) (by repeat' first | exact trivial | refine ⟨rfl, ?_⟩ | refine ⟨slot_int (by (try simp only [Int.toNat_natCast]); omega), ?_⟩) ?_ ?_
  · exact ⟨by omega, fun j hj => by omega, Keep.refl _⟩
  rintro i Hx ⟨hi, hw, kx⟩ hBx
  have hvx : Ints Hx v xs := Row.keep hv kx
  by_cases hi2 : i < xs.length
  · have hxi : xs[(i : Int).toNat]! = xs[i]! := rfl
    have hmem : xs[i]! ∈ xs := by rw [getElem!_pos xs i hi2]; exact List.getElem_mem _
    by_cases e : xs[i]! = t
    · repeat' first
        | refine CO.cons rfl ?_
        | refine CO.nil ?_
        | refine CV.seq ?_
        | refine CV.region callees ?_
        | refine CV.cond ?_
        | refine CV.block ?_
        | refine CV.skip ?_
        | refine CV.ret ?_
        | refine ⟨_, ints_len (by assumption), ?_⟩
        | refine ⟨_, ints_addr (by assumption) (by omega) (by omega), ?_⟩
        | refine ⟨_, ints_load (by assumption) (by omega) (by omega), ?_⟩
        | (refine ⟨fun _ => ?_, fun _ => ?_⟩ <;> first | (exfalso; omega) | skip)
        | fail
      exact ⟨rfl, ⟨i, rfl, ⟨fun h => by omega, fun h => absurd (e ▸ hmem) h⟩⟩, kx⟩
    · repeat' first
        | refine CO.cons rfl ?_
        | refine CO.nil ?_
        | refine CV.seq ?_
        | refine CV.region callees ?_
        | refine CV.cond ?_
        | refine CV.block ?_
        | refine CV.skip ?_
        | refine ⟨_, ints_len (by assumption), ?_⟩
        | refine ⟨_, ints_addr (by assumption) (by omega) (by omega), ?_⟩
        | refine ⟨_, ints_load (by assumption) (by omega) (by omega), ?_⟩
        | refine ⟨(⟨by omega, by omega⟩ : inI64 _), ?_⟩
        | (refine ⟨fun _ => ?_, fun _ => ?_⟩ <;> first | (exfalso; omega) | skip)
        | fail
      refine ⟨(i + 1), (by repeat' first | exact trivial | refine ⟨rfl, ?_⟩ | refine ⟨slot_int (by (try simp only [Int.toNat_natCast]); omega), ?_⟩), (by (try dsimp only); omega), ?_⟩
      refine ⟨by omega, fun j hj => ?_, kx⟩
      by_cases c : j = i
      · rw [c]; exact e
      · exact hw j (by omega)
  obtain rfl : i = xs.length := by omega
  have hno : t ∉ xs := fun hm => by
    obtain ⟨j, hj, e⟩ := List.getElem_of_mem hm
    have := hw j hj
    rw [getElem!_pos xs j hj] at this
    exact this e
  repeat' first
    | refine CO.cons rfl ?_
    | refine CO.nil ?_
    | refine CV.seq ?_
    | refine CV.region callees ?_
    | refine CV.cond ?_
    | refine CV.exit ?_
    | refine CV.ret ?_
    | refine ⟨_, ints_len (by assumption), ?_⟩
    | (refine ⟨fun _ => ?_, fun _ => ?_⟩ <;> first | (exfalso; omega) | skip)
    | fail
  exact ⟨rfl, ⟨-1, rfl, ⟨fun _ => hno, fun _ => by omega⟩⟩, kx⟩
set_option maxHeartbeats 4000000 in
set_option maxRecDepth 100000 in
theorem ordersRef_spec {n C : Nat} (hn7 : n ≤ 7) : ∀ {r B : Nat} {H : Heap} {bv : Value} {pre : List Int}, B ≤ H.n → C ≤ H.n → Own 3 H bv (pre.map VI) C → pre.length + r = n →
    CallB Try.prog B 53 [VI n, bv] H (fun v H' => (∃ vs, LLs H' v vs (fillL n r pre) H.n C) ∧ Keep H H')
  | 0, B, H, bv, pre, hB, hC, hv, hl => by
    have hvi : Ints H bv pre := hv.row
    have hone : oneC bv = true := by rcases hv with ⟨rfl, _⟩ | ⟨_, rfl, _⟩ <;> rfl
    refine CV.enter callees false rfl Try.func53 rfl (by kernel_rfl) (Nat.le_of_ble_eq_true rfl) hB ?_
    repeat' first
      | refine CO.cons rfl ?_
      | refine CO.nil ?_
      | refine CV.seq ?_
      | refine CV.region callees ?_
      | refine CV.cond ?_
      | refine CV.ret ?_
      | refine ⟨_, ints_len (by assumption), ?_⟩
      | (refine ⟨_, _, build_one un34 one22 hone, ?_⟩)
      | (refine ⟨fun _ => ?_, fun _ => ?_⟩ <;> first | (exfalso; omega) | skip)
      | fail
    exact ⟨rfl, ⟨[bv], ⟨.inr ⟨H.n, rfl, Nat.le_refl _, Nat.lt_succ_self _, Heap.get_new_eq _ _⟩, rfl, fun i hi => by
      have : i = 0 := by simp [fillL] at hi; exact hi
      subst this
      exact Own.keep hv (Keep.new _ _)⟩⟩, Keep.new _ _⟩
  | r + 1, B, H, bv, pre, hB, hC, hv, hl => by
    have hvi : Ints H bv pre := hv.row
    refine CV.enter callees false rfl Try.func53 rfl (by kernel_rfl) (Nat.le_of_ble_eq_true rfl) hB ?_
    repeat' first
      | refine CO.cons rfl ?_
      | refine CO.nil ?_
      | refine CV.seq ?_
      | refine CV.region callees ?_
      | refine CV.cond ?_
      | refine CV.block ?_
      | refine CV.skip ?_
      | refine ⟨_, ints_len (by assumption), ?_⟩
      | (refine ⟨fun _ => ?_, fun _ => ?_⟩ <;> first | (exfalso; omega) | skip)
      | fail
    refine CV.loopc ?_
    refine WCv.rounds callees false (α := Nat × Value × List Value) (fun (g, out, vs) => [(0, VI n), (1, bv), (5, out), (6, VI g)]) (fun (g, out, vs) Hz => g ≤ n ∧ LLs Hz out vs (fillP n r pre g) H.n C ∧ Keep H Hz) (fun (g, out, vs) => n - g) (0, nilS, []) (by repeat' first | exact trivial | refine ⟨rfl, ?_⟩ | refine ⟨slot_int (by (try simp only [Int.toNat_natCast]); omega), ?_⟩) ?_ ?_
    · exact ⟨by omega, ⟨.inl ⟨rfl, rfl⟩, rfl, fun i hi => by simp [fillP] at hi⟩, Keep.refl _⟩
    rintro ⟨g, out, vs⟩ Hx ⟨hg, hL, kx⟩ hBx
    have lx := kx.1
    have hvx : Own 3 Hx bv (pre.map VI) C := Own.keep hv kx
    have hvxi : Ints Hx bv pre := hvx.row
    by_cases hg2 : g < n
    · have hsu := fillP_succ (n := n) (r := r) (pre := pre) (i := g)
      repeat' first
        | refine CO.cons rfl ?_
        | refine CO.nil ?_
        | refine CV.seq ?_
        | refine CV.region callees ?_
        | refine CV.cond ?_
        | refine CV.block ?_
        | refine CV.skip ?_
        | (refine ⟨fun _ => ?_, fun _ => ?_⟩ <;> first | (exfalso; omega) | skip)
        | fail
      refine (seatRef_spec (by omega) hvxi (by omega)).mono ?_
      rintro v1 H1 ⟨⟨k, rfl, hk⟩, k1⟩
      have l1 := k1.1
      have hL1 := hL.keep k1
      by_cases hm : (g : Int) ∈ pre
      · have hk0 : ¬ k < 0 := fun h => hk.1 h hm
        rw [if_pos hm, List.append_nil] at hsu
        repeat' first
          | refine CO.cons rfl ?_
          | refine CO.nil ?_
          | refine CV.region callees ?_
          | refine CV.cond ?_
          | refine CV.skip ?_
          | refine ⟨(⟨by omega, by omega⟩ : inI64 _), ?_⟩
          | (refine ⟨fun _ => ?_, fun _ => ?_⟩ <;> first | (exfalso; omega) | skip)
          | fail
        refine ⟨(g + 1, out, vs), (by repeat' first | exact trivial | refine ⟨rfl, ?_⟩ | refine ⟨slot_int (by (try simp only [Int.toNat_natCast]); omega), ?_⟩), (by (try dsimp only); omega), ?_⟩
        exact ⟨by omega, by rw [hsu]; exact hL1, kx.trans k1⟩
      · have hk0 : k < 0 := hk.2 hm
        rw [if_neg hm] at hsu
        have hv1 : Own 3 H1 bv (pre.map VI) C := Own.keep hvx k1
        repeat' first
          | refine CO.cons rfl ?_
          | refine CO.nil ?_
          | refine CV.region callees ?_
          | refine CV.cond ?_
          | (refine ⟨_, _, build_none un22 one3, ?_⟩)
          | (refine ⟨fun _ => ?_, fun _ => ?_⟩ <;> first | (exfalso; omega) | skip)
          | fail
        refine copy_ask un22 one3 (by omega) hv1.row (by omega) (by rw [List.length_map]; omega) ?_
        intro c H2 hc k2
        have l2 := k2.1
        repeat' first
          | refine CO.cons rfl ?_
          | (refine ⟨_, _, build_one un22 one3 rfl, ?_⟩)
          | fail
        refine push_ask hc (by omega) (by omega) (by omega) ?_
        intro d H3 hd kb3 hf3
        have k3 : Keep H1 H3 := kb3.keep k2 (fun q hq => (hc.lt hq).1)
        have l3 := k3.1
        repeat' first
          | refine CO.cons rfl ?_
          | fail
        refine (ordersRef_spec (C := C) hn7 (r := r) (B := B) (H := H3) (pre := pre ++ [(g : Int)]) (by omega) (by omega) (Own.lower hd (by omega)) (by rw [List.length_append, List.length_singleton]; omega)).mono ?_
        rintro w H4 ⟨⟨ws, hW⟩, k4⟩
        have l4 := k4.1
        have hL4 := hL1.keep (k3.trans k4)
        have hlen : vs.length + ws.length < 1000000 := by
          have e1 := hL.len
          have e2 := hW.len
          have e3 := (fillP_pre (n := n) (r := r) (pre := pre) (d := n - (g + 1)) (i := g + 1)).length_le
          rw [show g + 1 + (n - (g + 1)) = n by omega, hsu, List.length_append] at e3
          have e4 : (fillP n r pre n).length ≤ 7 ^ (r + 1) := fillL_len hn7 (r := r + 1) (pre := pre)
          have e5 : 7 ^ (r + 1) ≤ 7 ^ 7 := Nat.pow_le_pow_right (by decide) (by omega)
          have e6 : 7 ^ 7 = 823543 := by decide
          omega
        repeat' first
          | refine CO.cons rfl ?_
          | fail
        refine append_all_ask un34 one22 (by omega) hL4.own hW.own.row (by omega) (by omega) hlen ?_
        intro x H5 hx5 kb5
        have l5 := kb5.le
        repeat' first
          | refine CO.cons rfl ?_
          | refine CO.nil ?_
          | refine CV.region callees ?_
          | refine ⟨(⟨by omega, by omega⟩ : inI64 _), ?_⟩
          | fail
        refine ⟨(g + 1, x, vs ++ ws), (by repeat' first | exact trivial | refine ⟨rfl, ?_⟩ | refine ⟨slot_int (by (try simp only [Int.toNat_natCast]); omega), ?_⟩), (by (try dsimp only); omega), ?_⟩
        refine ⟨by omega, ?_, kb5.keep (kx.trans (k1.trans (k3.trans k4))) (fun q hq => (hL4.own.lt hq).1)⟩
        rw [hsu]
        exact LLs.app hx5 hL.len hW.len (fun i hi => own_but (hL4.at' i hi) hL4.own kb5) (fun i hi => own_but (hW.at' i hi) hL4.own kb5)
    obtain rfl : g = n := by omega
    repeat' first
      | refine CO.cons rfl ?_
      | refine CO.nil ?_
      | refine CV.seq ?_
      | refine CV.region callees ?_
      | refine CV.cond ?_
      | refine CV.exit ?_
      | refine CV.ret ?_
      | (refine ⟨fun _ => ?_, fun _ => ?_⟩ <;> first | (exfalso; omega) | skip)
      | fail
    exact ⟨by simp only [List.all_cons, List.all_nil, hL.own.notTuple]; rfl, ⟨vs, hL⟩, kx⟩
end Go.Proofs.Ytlamceokhbigaaa
