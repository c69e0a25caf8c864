
/- Guests and rules that may be. -/
import Derived.Test.YtlamceokhbigaaaT1g
set_option linter.unusedVariables false
set_option linter.unusedSimpArgs false
namespace Go.Proofs.Ytlamceokhbigaaa
open Go.AI
set_option maxRecDepth 100000 in
theorem isWithin_yes {B : Nat} {H : Heap} {n a b : Int} (hB : B ≤ H.n) (h : a ≤ n ∧ n ≤ b) :
    CallB Try.prog B 92 [VI n, VI a, VI b] H (fun r H' => r = .bool true ∧ H' = H) := by
  refine CV.enter callees false rfl Try.func92 rfl (by kernel_rfl) (Nat.le_of_ble_eq_true rfl) hB ?_
  repeat' first
    | refine CO.cons rfl ?_
    | refine CO.nil ?_
    | refine CV.seq ?_
    | refine CV.region callees ?_
    | refine CV.ret ?_
    | refine CO.consG rfl ?_
    | (refine ⟨fun _ => ?_, fun _ => ?_⟩ <;> first | (exfalso; omega) | skip)
    | fail
  exact ⟨rfl, rfl, rfl⟩
/-- A name. -/
def Name (l : List Int) : Prop := 1 ≤ l.length ∧ l.length ≤ 8 ∧ ∀ x ∈ l, 97 ≤ x ∧ x ≤ 122
theorem Name.bytes {l : List Int} (h : Name l) : Bytes l := fun x hx => by have := h.2.2 x hx; omega
set_option maxRecDepth 100000 in
theorem isName_spec {B : Nat} {H : Heap} {l : List Int} (hB : B ≤ H.n) (h : Name l) :
    CallB Try.prog B 135 [VS l, VI 8] H (fun r H' => r = .bool true ∧ H' = H) := by
  obtain ⟨h1, h2, h3⟩ := h
  have hby : ∀ x ∈ l, 0 ≤ x ∧ x < 256 := fun x hx => by have := h3 x hx; omega
  refine CV.enter callees false rfl Try.func135 rfl (by kernel_rfl) (Nat.le_of_ble_eq_true rfl) hB ?_
  repeat' first
    | refine CO.cons rfl ?_
    | refine CO.nil ?_
    | refine CV.seq ?_
    | refine CV.region callees ?_
    | refine CV.cond ?_
    | refine CV.block ?_
    | refine CV.skip ?_
    | refine CO.consG rfl ?_
    | (refine ⟨_, str_len un9, ?_⟩)
    | (refine ⟨fun _ => ?_, fun _ => ?_⟩ <;> first | (exfalso; omega) | skip)
    | fail
  refine CV.loopc ?_
  refine WCv.rounds callees false (α := Nat) (fun i => [(0, VS l), (16, VI l.length), (17, VI i)]) (fun i Hz => i ≤ l.length ∧ Hz = H) (fun i => l.length - i) (0) (by repeat' first | exact trivial | refine ⟨rfl, ?_⟩ | refine ⟨slot_int (by (try simp only [Int.toNat_natCast]); omega), ?_⟩) ?_ ?_
  · exact ⟨by omega, rfl⟩
  rintro i Hx ⟨hi, rfl⟩ hBx
  by_cases hi2 : i < l.length
  · have hm := h3 l[(i : Int).toNat]! (by rw [getElem!_pos l _ (by omega)]; exact List.getElem_mem _)
    repeat' first
      | refine CO.cons rfl ?_
      | refine CO.nil ?_
      | refine CV.seq ?_
      | refine CV.region callees ?_
      | refine CV.cond ?_
      | refine CV.block ?_
      | refine CV.skip ?_
      | refine CO.consG rfl ?_
      | refine ⟨(⟨by omega, by omega⟩ : inI64 _), ?_⟩
      | (refine ⟨_, str_index un9 hby (by omega) (by omega), ?_⟩)
      | (refine ⟨fun _ => ?_, fun _ => ?_⟩ <;> first | (exfalso; omega) | skip)
      | fail
    refine ⟨(i + 1), (by repeat' first | exact trivial | refine ⟨rfl, ?_⟩ | refine ⟨slot_int (by (try simp only [Int.toNat_natCast]); omega), ?_⟩), (by (try dsimp only); omega), ?_⟩
    exact ⟨by omega, rfl⟩
  repeat' first
    | refine CO.cons rfl ?_
    | refine CO.nil ?_
    | refine CV.seq ?_
    | refine CV.region callees ?_
    | refine CV.cond ?_
    | refine CV.exit ?_
    | refine CV.ret ?_
    | (refine ⟨fun _ => ?_, fun _ => ?_⟩ <;> first | (exfalso; omega) | skip)
    | fail
  exact ⟨rfl, rfl, rfl⟩
structure GuOk (g : Gu) : Prop where
  nm : Name g.nm
  ra : 0 ≤ g.ra
  ra' : g.ra ≤ 9
  ho : 0 ≤ g.ho
  ho' : g.ho ≤ 1000
  ne : 0 ≤ g.ne
  ne' : g.ne ≤ 255
  ma : 0 ≤ g.ma
  ma' : g.ma ≤ 255
set_option maxHeartbeats 4000000 in
set_option maxRecDepth 100000 in
theorem checkGuest_spec {B : Nat} {H : Heap} {g : Gu} (hB : B ≤ H.n) (h : GuOk g) :
    CallB Try.prog B 108 [Guv g] H (fun r H' => r = VI 0 ∧ Keep H H') := by
  refine CV.enter callees false rfl Try.func108 rfl (by kernel_rfl) (Nat.le_of_ble_eq_true rfl) hB ?_
  repeat' first
    | refine CO.cons rfl ?_
    | refine CV.seq ?_
    | refine CV.region callees ?_
    | fail
  refine ⟨(by simp only [notTuple]), ?_⟩
  rw [boxG]
  generalize hs0 : Heap.new H _ = H0
  have hg0 := new_get hs0
  have k0 := new_keep hs0
  have n0 := new_n hs0
  obtain ⟨b0, hbn0⟩ : ∃ b, Heap.n H = b := ⟨_, rfl⟩
  rw [hbn0] at hg0 n0 ⊢
  repeat' first
    | refine CO.cons rfl ?_
    | refine CO.nil ?_
    | refine CV.seq ?_
    | refine CV.region callees ?_
    | (refine ⟨_, fS foG0 (by decide), ?_⟩)
    | (refine ⟨_, cell_load ag9 hg0 rfl, ?_⟩)
    | fail
  refine (isName_spec (by omega) h.nm).mono ?_
  rintro r H1 ⟨rfl, rfl⟩
  repeat' first
    | refine CO.cons rfl ?_
    | refine CO.nil ?_
    | refine CV.seq ?_
    | refine CV.region callees ?_
    | refine CV.cond ?_
    | refine CV.skip ?_
    | (refine ⟨_, fS foG1 (by decide), ?_⟩)
    | (refine ⟨_, cell_load ag3 hg0 rfl, ?_⟩)
    | fail
  refine (isWithin_yes (by omega) ⟨h.ra, h.ra'⟩).mono ?_
  rintro r H1 ⟨rfl, rfl⟩
  repeat' first
    | refine CO.cons rfl ?_
    | refine CO.consG rfl ?_
    | (refine ⟨_, fS foG2 (by decide), ?_⟩)
    | (refine ⟨_, cell_load ag3 hg0 rfl, ?_⟩)
    | fail
  refine (isWithin_yes (by omega) ⟨h.ho, h.ho'⟩).mono ?_
  rintro r H1 ⟨rfl, rfl⟩
  repeat' first
    | refine CO.cons rfl ?_
    | refine CO.consG rfl ?_
    | (refine ⟨_, fS foG3 (by decide), ?_⟩)
    | (refine ⟨_, cell_load ag3 hg0 rfl, ?_⟩)
    | fail
  refine (isWithin_yes (by omega) ⟨h.ne, h.ne'⟩).mono ?_
  rintro r H1 ⟨rfl, rfl⟩
  repeat' first
    | refine CO.cons rfl ?_
    | refine CO.consG rfl ?_
    | (refine ⟨_, fS foG4 (by decide), ?_⟩)
    | (refine ⟨_, cell_load ag3 hg0 rfl, ?_⟩)
    | fail
  refine (isWithin_yes (by omega) ⟨h.ma, h.ma'⟩).mono ?_
  rintro r H1 ⟨rfl, rfl⟩
  repeat' first
    | refine CO.cons rfl ?_
    | refine CO.nil ?_
    | refine CV.seq ?_
    | refine CV.region callees ?_
    | refine CV.cond ?_
    | refine CV.skip ?_
    | refine CV.ret ?_
    | refine CO.consG rfl ?_
    | fail
  exact ⟨rfl, rfl, k0⟩
set_option maxRecDepth 100000 in
theorem checkGuests1_spec {B b : Nat} {H : Heap} {g g' : Gu} (hB : B ≤ H.n) (hg : H.get b = some (.cells (Gul g') 68 1)) (hbn : b < H.n) (h1 : Bytes g.nm) (h2 : Bytes g'.nm) (h : g.nm ≠ g'.nm) :
    CallB Try.prog B 124 [Guv g, .pointer (some ⟨b, 0, none⟩)] H (fun r H' => r = .bool false ∧ Keep H H') := by
  refine CV.enter callees false rfl Try.func124 rfl (by kernel_rfl) (Nat.le_of_ble_eq_true rfl) hB ?_
  repeat' first
    | refine CO.cons rfl ?_
    | refine CV.seq ?_
    | refine CV.region callees ?_
    | fail
  refine ⟨(by simp only [notTuple]), ?_⟩
  rw [boxG]
  generalize hs0 : Heap.new H _ = H0
  have hg0 := new_get hs0
  have k0 := new_keep hs0
  have n0 := new_n hs0
  obtain ⟨b0, hbn0⟩ : ∃ b, Heap.n H = b := ⟨_, rfl⟩
  rw [hbn0] at hg0 n0 ⊢
  have hg' := (k0.2 b hbn).trans hg
  repeat' first
    | refine CO.cons rfl ?_
    | refine CO.nil ?_
    | refine CV.seq ?_
    | refine CV.region callees ?_
    | refine CV.ret ?_
    | (refine ⟨_, fS foG0 (by decide), ?_⟩)
    | (refine ⟨_, cell_load ag9 hg0 rfl, ?_⟩)
    | (refine ⟨_, cell_load ag9 hg' rfl, ?_⟩)
    | (refine ⟨_, fun tm ha => eqS_f rfl (ev_tmp ha rfl) (ev_tmp ha rfl) h1 h2 h, ?_⟩)
    | fail
  exact ⟨rfl, rfl, k0⟩
set_option maxRecDepth 100000 in
theorem indexFunc_spec {B b : Nat} {H : Heap} {v : Value} {gs : List Gu} {g' : Gu} (hB : B ≤ H.n) (hv : RowS 5 H v (gs.map Gul)) (hl : gs.length ≤ 100) (hg : H.get b = some (.cells (Gul g') 68 1)) (hbn : b < H.n) (h2 : Bytes g'.nm) (h : ∀ i, i < gs.length → Bytes gs[i]!.nm ∧ gs[i]!.nm ≠ g'.nm) :
    CallB Try.prog B 144 [v, .func (.func 124) #[] #[.pointer (some ⟨b, 0, none⟩)]] H (fun r H' => r = VI (-1) ∧ Keep H H') := by
  refine CV.enter callees false rfl Try.func144 rfl (by kernel_rfl) (Nat.le_of_ble_eq_true rfl) hB ?_
  repeat' first
    | refine CO.cons rfl ?_
    | refine CO.nil ?_
    | refine CV.seq ?_
    | refine CV.region callees ?_
    | refine CV.block ?_
    | (refine ⟨_, gs_len hv, ?_⟩)
    | fail
  refine CV.loopc ?_
  refine WCv.rounds callees false (α := Nat) (fun i => [(0, v), (1, .func (.func 124) #[] #[.pointer (some ⟨b, 0, none⟩)]), (7, VI gs.length), (8, VI i)]) (fun i Hz => i ≤ gs.length ∧ Keep H Hz) (fun i => gs.length - i) (0) (by repeat' first | exact trivial | refine ⟨rfl, ?_⟩ | refine ⟨slot_int (by (try simp only [Int.toNat_natCast]); omega), ?_⟩) ?_ ?_
  · exact ⟨by omega, Keep.refl _⟩
  rintro i Hx ⟨hi, kx⟩ hBx
  have lx := kx.1
  by_cases hi2 : i < gs.length
  · have hvx := hv.keep kx
    have h0 := h i hi2
    repeat' first
      | refine CO.cons rfl ?_
      | refine CO.nil ?_
      | refine CV.seq ?_
      | refine CV.region callees ?_
      | refine CV.cond ?_
      | refine CV.block ?_
      | refine CV.skip ?_
      | (refine ⟨_, gs_addr hvx (by omega) (by omega), ?_⟩)
      | (refine ⟨_, gs_load hvx hi2, ?_⟩)
      | (refine ⟨fun _ => ?_, fun _ => ?_⟩ <;> first | (exfalso; omega) | skip)
      | fail
    refine (checkGuests1_spec (by omega) ((kx.2 b hbn).trans hg) (by omega) h0.1 h2 h0.2).mono ?_
    rintro r H1 ⟨rfl, k1⟩
    repeat' first
      | refine CO.cons rfl ?_
      | refine CO.nil ?_
      | refine CV.region callees ?_
      | refine CV.cond ?_
      | refine CV.skip ?_
      | refine ⟨(⟨by omega, by omega⟩ : inI64 _), ?_⟩
      | fail
    refine ⟨(i + 1), (by repeat' first | exact trivial | refine ⟨rfl, ?_⟩ | refine ⟨slot_int (by (try simp only [Int.toNat_natCast]); omega), ?_⟩), (by (try dsimp only); omega), ?_⟩
    exact ⟨by omega, kx.trans k1⟩
  repeat' first
    | refine CO.cons rfl ?_
    | refine CO.nil ?_
    | refine CV.seq ?_
    | refine CV.region callees ?_
    | refine CV.cond ?_
    | refine CV.exit ?_
    | refine CV.ret ?_
    | (refine ⟨fun _ => ?_, fun _ => ?_⟩ <;> first | (exfalso; omega) | skip)
    | fail
  exact ⟨rfl, rfl, kx⟩
set_option maxRecDepth 100000 in
theorem containsFunc_spec {B b : Nat} {H : Heap} {v : Value} {gs : List Gu} {g' : Gu} (hB : B ≤ H.n) (hv : RowS 5 H v (gs.map Gul)) (hl : gs.length ≤ 100) (hg : H.get b = some (.cells (Gul g') 68 1)) (hbn : b < H.n) (h2 : Bytes g'.nm) (h : ∀ i, i < gs.length → Bytes gs[i]!.nm ∧ gs[i]!.nm ≠ g'.nm) :
    CallB Try.prog B 123 [v, .func (.func 124) #[] #[.pointer (some ⟨b, 0, none⟩)]] H (fun r H' => r = .bool false ∧ Keep H H') := by
  refine CV.enter callees false rfl Try.func123 rfl (by kernel_rfl) (Nat.le_of_ble_eq_true rfl) hB ?_
  repeat' first
    | refine CO.cons rfl ?_
    | refine CO.nil ?_
    | refine CV.seq ?_
    | refine CV.region callees ?_
    | fail
  refine (indexFunc_spec hB hv hl hg hbn h2 h).mono ?_
  rintro r H1 ⟨rfl, k1⟩
  repeat' first
    | refine CO.cons rfl ?_
    | refine CO.nil ?_
    | refine CV.ret ?_
    | (refine ⟨fun _ => ?_, fun _ => ?_⟩ <;> first | (exfalso; omega) | skip)
    | fail
  exact ⟨rfl, rfl, k1⟩
end Go.Proofs.Ytlamceokhbigaaa

