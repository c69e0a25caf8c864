
/- Minutes, handed out one by one. -/
import Derived.Test.YtglkphjjinmgmaaWhh
set_option linter.unusedVariables false
set_option linter.unusedSimpArgs false
namespace Go.AI
theorem RowS.slice_lo {P : Program} {s : Nat} {H : Heap} {v : Value} {rs : List (List Value)} {t e : TypeId} (h : RowS s H v rs) (ht : P.underlying t = some (.slice e)) (hs : sizeB P e = some s) {i : Int} {kd : IntKind} (h0 : 0 ≤ i) (h1 : i ≤ rs.length) :
    ∃ r, aslice P t v (some (some (.int kd i))) none = some r ∧ ∀ H', RowS s H' v rs → RowS s H' r (rs.drop i.toNat) := by
  rcases h.2 with ⟨rfl, rfl⟩ | ⟨rfl, rfl⟩ | ⟨b, o, c, cs, e', k, rfl, h2, h3, h4, h5, h6⟩
  · simp at h1
    have : i = 0 := by omega
    subst this
    exact ⟨.slice none 0 0, by simp [aslice, ht, hs, bound], fun H' h' => by simpa using h'⟩
  · simp at h1
    have : i = 0 := by omega
    subst this
    exact ⟨anon, by simp [aslice, anon, ht, hs, bound], fun H' h' => by simpa using h'⟩
  · by_cases hi0 : i = 0
    · subst hi0
      exact ⟨.slice (some ⟨b, o, none⟩) rs.length c, by simp [aslice, ht, hs, bound], fun H' h' => by simpa using h'⟩
    · by_cases hil : i = rs.length
      · subst hil
        refine ⟨anon, by simp only [aslice, ht, hs, bound]; rw [if_pos ⟨h0, Int.le_refl _, Int.le_refl _⟩, if_neg hi0, if_pos trivial], fun H' h' => ⟨fun r hr => h'.1 r (List.mem_of_mem_drop hr), .inr (.inl ⟨rfl, by simp⟩)⟩⟩
      · refine ⟨.slice (some ⟨b, o + i.toNat * s, none⟩) (rs.length - i.toNat) (c + i.toNat), ?_, fun H' h' => ⟨fun r hr => h'.1 r (List.mem_of_mem_drop hr), ?_⟩⟩
        · simp only [aslice, ht, hs, bound]
          rw [if_pos ⟨h0, h1, Int.le_refl _⟩, if_neg hi0, if_neg hil]
          congr 2
          omega
        · rcases h'.2 with ⟨hx, _⟩ | ⟨hx, _⟩ | ⟨b', o', c', cs', e2, k', hx, g2, g3, g4, g5, g6⟩
          · cases hx
          · simp [anon] at hx
          · cases hx
            refine .inr (.inr ⟨b, o + i.toNat * s, c + i.toNat, cs', e2, k', by rw [List.length_drop], g2, g3, g4, ?_, fun j q r w hj hq => ?_⟩)
            · rw [List.length_drop]
              have : (rs.length - i.toNat) * s + i.toNat * s = rs.length * s := by rw [← Nat.add_mul]; congr 1; omega
              omega
            · rw [List.getElem?_drop] at hj
              have := g6 (i.toNat + j) q r w hj hq
              rw [Nat.add_mul] at this
              rw [show o + i.toNat * s + j * s + q = o + (i.toNat * s + j * s) + q by omega]
              exact this
theorem RowS.over {s l : Nat} {H H' : Heap} {v : Value} {rs : List (List Value)} (h : RowS s H v rs) (k : KeepTo l H H') (hl : ∀ c, blkOf v = some c → c ≤ l) : RowS s H' v rs := by
  refine ⟨h.1, ?_⟩
  rcases h.2 with h | h | ⟨b, i, c, cs, e, kd, rfl, h2, h3, h4⟩
  · exact .inl h
  · exact .inr (.inl h)
  · exact .inr (.inr ⟨b, i, c, cs, e, kd, rfl, Nat.lt_of_lt_of_le h2 k.le, by rw [k.get b (hl b rfl)]; exact h3, h4⟩)
end Go.AI
namespace Go.Proofs.Ytglkphjjinmgmaa
open Go.AI
/-- The pours of a minute. -/
def pourR (m : Int) : List Po → Wt → Wt × List Po
  | [], w => (w, [])
  | p :: r, w => if p.mi = m then pourR m r (pourN w p) else (w, p :: r)
/-- Before the pours of a minute, and behind them. -/
def befM (k : Ke) (E : List Em) (ps : List Po) : Nat → Wt × List Po
  | 0 => (⟨k.wa, k.wl, k.wh⟩, ps)
  | m + 1 => (hotN k (pourR m (befM k E ps m).2 (befM k E ps m).1).1 (heatL E m), (pourR m (befM k E ps m).2 (befM k E ps m).1).2)
def aftM (k : Ke) (E : List Em) (ps : List Po) (m : Nat) : Wt × List Po := pourR m (befM k E ps m).2 (befM k E ps m).1
def warmM (k : Ke) (E : List Em) (ps : List Po) (m : Nat) : Int × Int := ((aftM k E ps m).1.w0, (aftM k E ps m).1.w1)
/-- Water, and the pours that are left. -/
structure WS (k : Ke) (ps : List Po) (j : Nat) (w : Wt) : Prop where
  jl : j ≤ ps.length
  la : w.la = watN k.wa ps j
  ok : WOk w
theorem WS.zero {k : Ke} {ps : List Po} (hk : KOk k) : WS k ps 0 ⟨k.wa, k.wl, k.wh⟩ :=
  ⟨Nat.zero_le _, watN_zero.symm, hk.wa, hk.wa', hk.wl, by have := hk.wm; have := hk.wh; (show k.wl ≤ 1000); omega, by have := hk.wl; have := hk.wm; (show 0 ≤ k.wh); omega, hk.wh⟩
theorem WS.pour {k : Ke} {ps : List Po} {j : Nat} {w : Wt} (h : WS k ps j w) (hp : POk k.wa ps) (hj : j < ps.length) : WS k ps (j + 1) (pourN w ps[j]!) := by
  have h1 := hp.wa (j + 1) (by omega)
  have h2 := watN_succ (w := k.wa) hj
  have h3 := hp.wm j hj
  have h4 := h.la
  obtain ⟨a, b⟩ := pourN_ok (p := ps[j]!) h.ok h3.1 h3.2 (by omega) (by omega)
  exact ⟨by omega, by omega, a⟩
theorem drop_at {ps : List Po} {j : Nat} (h : j < ps.length) : ps.drop j = ps[j]! :: ps.drop (j + 1) := by
  rw [List.drop_eq_getElem_cons h, getElem!_pos ps j h]
theorem ws_pourR {k : Ke} {ps : List Po} (hp : POk k.wa ps) (m : Int) : ∀ (n j : Nat) (w : Wt), ps.length - j ≤ n → WS k ps j w → ∃ j', (pourR m (ps.drop j) w).2 = ps.drop j' ∧ WS k ps j' (pourR m (ps.drop j) w).1 := by
  intro n
  induction n with
  | zero =>
    intro j w hn h
    have := h.jl
    rw [List.drop_eq_nil_of_le (by omega)]
    exact ⟨j, by rw [List.drop_eq_nil_of_le (show ps.length ≤ j by omega)]; rfl, h⟩
  | succ n ih =>
    intro j w hn h
    have hjl := h.jl
    by_cases hj : j < ps.length
    · rw [drop_at hj]
      unfold pourR
      split
      · exact ih (j + 1) _ (by omega) (h.pour hp hj)
      · exact ⟨j, (drop_at hj).symm, h⟩
    · rw [List.drop_eq_nil_of_le (by omega)]
      exact ⟨j, by rw [List.drop_eq_nil_of_le (show ps.length ≤ j by omega)]; rfl, h⟩
theorem heatL_bd {E : List Em} {m : Int} (hn : E.length ≤ 12) (hE : ∀ i, i < E.length → EmOk E[i]!) : (0 ≤ (heatL E m).1 ∧ (heatL E m).1 ≤ 12000) ∧ 0 ≤ (heatL E m).2 ∧ (heatL E m).2 ≤ 12000 := by
  have hl : (E.map (giv m)).length = E.length := List.length_map _
  have b1 := sumI_bd (c := 1000) (by decide) (l := (E.map (giv m)).map (·.1)) (i := E.length) (fun j hj => by
    rw [List.length_map, hl] at hj
    rw [map_at1 (by omega), giv_at hj]; exact (giv_bd (hE j hj)).1) (by rw [List.length_map, hl]; exact Nat.le_refl _)
  have b2 := sumI_bd (c := 1000) (by decide) (l := (E.map (giv m)).map (·.2)) (i := E.length) (fun j hj => by
    rw [List.length_map, hl] at hj
    rw [map_at2 (by omega), giv_at hj]; exact (giv_bd (hE j hj)).2) (by rw [List.length_map, hl]; exact Nat.le_refl _)
  rw [List.take_of_length_le (by simp)] at b1 b2
  exact ⟨⟨b1.1, Int.le_trans b1.2 (by omega)⟩, b2.1, Int.le_trans b2.2 (by omega)⟩
theorem ws_bef {k : Ke} {E : List Em} {ps : List Po} (hk : KOk k) (hp : POk k.wa ps) (hn : E.length ≤ 12) (hE : ∀ i, i < E.length → EmOk E[i]!) : ∀ m, ∃ j, (befM k E ps m).2 = ps.drop j ∧ WS k ps j (befM k E ps m).1
  | 0 => ⟨0, rfl, WS.zero hk⟩
  | m + 1 => by
    obtain ⟨j, h1, h2⟩ := ws_bef hk hp hn hE m
    obtain ⟨j', h3, h4⟩ := ws_pourR hp (m : Int) _ j _ (Nat.le_refl _) h2
    have hb := heatL_bd (m := (m : Int)) hn hE
    refine ⟨j', ?_, ?_⟩
    · simp only [befM, h1]; exact h3
    · simp only [befM, h1]
      exact ⟨h4.jl, h4.la, hotN_ok h4.ok hk hb.1.1 hb.1.2 hb.2.1 hb.2.2⟩
theorem ws_aft {k : Ke} {E : List Em} {ps : List Po} (hk : KOk k) (hp : POk k.wa ps) (hn : E.length ≤ 12) (hE : ∀ i, i < E.length → EmOk E[i]!) (m : Nat) : ∃ j, (aftM k E ps m).2 = ps.drop j ∧ WS k ps j (aftM k E ps m).1 := by
  obtain ⟨j, h1, h2⟩ := ws_bef hk hp hn hE m
  obtain ⟨j', h3, h4⟩ := ws_pourR hp (m : Int) _ j _ (Nat.le_refl _) h2
  exact ⟨j', by simp only [aftM, h1]; exact h3, by simp only [aftM, h1]; exact h4⟩
set_option maxRecDepth 100000 in
theorem minutes_spec {B : Nat} {H : Heap} {k : Ke} {ev pv : Value} {last : Int} (hB : B ≤ H.n) (h1 : ev.cells.toList = [ev]) (h2 : pv.cells.toList = [pv]) :
    CallB Try.prog B 79 [Bov k ev pv, VJ last] H (fun r H' => (∃ b, r = .func (.func 97) #[] #[.pointer (some ⟨b, 0, none⟩), .pointer (some ⟨b + 1, 0, none⟩)] ∧ H'.get b = some (.cells (Bol k ev pv) 116 1) ∧ H'.get (b + 1) = some (.cells [VJ last] 3 1) ∧ H.n ≤ b ∧ b + 2 ≤ H'.n) ∧ Keep H H') := by
  refine CV.enter callees false rfl Try.func79 rfl (by kernel_rfl) (Nat.le_of_ble_eq_true rfl) hB ?_
  repeat' first
    | refine CO.cons rfl ?_
    | refine CV.seq ?_
    | refine CV.region callees ?_
    | fail
  refine ⟨(by simp only [notTuple]), ?_⟩
  rw [boxBo h1 h2]
  generalize hs0 : Heap.new H _ = H0
  have hg0 := new_get hs0
  have k0 := new_keep hs0
  have n0 := new_n hs0
  obtain ⟨b0, hbn0⟩ : ∃ b, Heap.n H = b := ⟨_, rfl⟩
  rw [hbn0] at hg0 n0 ⊢
  repeat' first
    | refine CO.cons rfl ?_
    | refine CO.nil ?_
    | refine CV.seq ?_
    | refine CV.region callees ?_
    | refine CV.ret ?_
    | refine ⟨(rfl : notTuple (Value.int _ _) = true), ?_⟩
    | refine ⟨(rfl : List.all _ cellLike = true), ?_⟩
    | fail
  generalize hs1 : anew H0 _ _ _ = H1
  have hs1' : H0.new (.cells [VJ last] 3 1) = H1 := hs1
  have hg1 := new_get hs1'
  have k1 := new_keep hs1'
  have n1 := new_n hs1'
  refine ⟨rfl, ⟨b0, by rw [n0], (k1.2 b0 (by omega)).trans hg0, by rw [← n0]; exact hg1, by omega, by omega⟩, k0.trans k1⟩
theorem bu117 {x y z : Int} : abuild Try.prog 138 [(0, VJ x), (1, Hv (y, z))] = some (Wtv ⟨x, y, z⟩) := by kernel_rfl
end Go.Proofs.Ytglkphjjinmgmaa
