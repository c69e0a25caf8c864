
/- Dishes: what a guest can eat, costs, what is enough. -/
import Derived.Test.Ytlamceokhbigaaax1g
import Derived.Test.Ytlamceokhbigaaau2g
set_option linter.unusedVariables false
set_option linter.unusedSimpArgs false
namespace Go.Proofs.Ytlamceokhbigaaa
open Go.AI
abbrev di0 : Di := ⟨0, 0, 0⟩
theorem zeroDi : zeroCellsW Try.prog dT = some (Dil di0) := by kernel_rfl
theorem alDi {H : Heap} : sAlloc Try.prog H dT = some (.pointer (some ⟨H.n, 0, none⟩), H.new (.cells (Dil di0) dT 1), H.n) := alloc_ofW zeroDi
theorem ldDi {H : Heap} {b : Nat} {g : Di} {e : TypeId} {k : Nat} (hg : H.get b = some (.cells (Dil g) e k)) : aload Try.prog dT H (.pointer (some ⟨b, 0, none⟩)) = some (Div g) := agg_load agDi szDi hg (Nat.le_refl _)
theorem stDi {H : Heap} {b k : Nat} {c d : Di} {e : TypeId} (hg : H.get b = some (.cells (Dil c) e (k + 1))) : astore Try.prog dT H (Div d) (.pointer (some ⟨b, 0, none⟩)) = some (H.set b (.cells (Dil d) e (k + 1)), b) := store_allW (vs := Dil d) hg rfl szDi rfl
theorem boxD {H : Heap} {g : Di} {e : TypeId} : anew H (Value.cells (Div g)).toList e 1 = H.new (.cells (Dil g) e 1) := rfl
abbrev OwnD (H : Heap) (v : Value) (l : List Di) (B : Nat) : Prop := OwnS dT 3 H v (l.map Dil) B
theorem zeroDib : zeroBB Try.prog dT = some (Dil di0, 24) := by kernel_rfl
theorem di_one {H : Heap} {x : Di} : abuildSlice Try.prog H dS 1 [(0, Div x)] = some (.slice (some ⟨H.n, 0, none⟩) 1 0, H.new (.cells (Dil x) dT 2), H.n) :=
  build_oneS (row := Dil x) unDi zeroDib (by decide) rfl
theorem di_push {K : Value → Heap → Prop} {B B0 : Nat} {H : Heap} {x : Value} {l : List Di} {d : Di} (hx : OwnD H x l B0) (hB0 : B0 ≤ H.n) (hB : B ≤ B0) (hn : l.length < 1000000)
    (hk : ∀ r H', OwnD H' r (l ++ [d]) B0 → KeepBut x H H' → (∀ c, blkOf r = some c → H.n ≤ c) → K r H') :
    ∃ v H' b, aappend Try.prog (H.new (.cells (Dil d) dT 2)) #[dS, dS] x (.slice (some ⟨H.n, 0, none⟩) 1 0) = some (v, H', b) ∧ B ≤ b ∧ K v H' :=
  append_askS (z := Dil di0) unDi zeroDib (by decide) rfl hx hB0 hB (by rw [List.length_map]; exact hn) (fun r H' ho => hk r H' (by rw [OwnD, List.map_append]; exact ho))
structure DiOk (d : Di) : Prop where
  t0 : 0 ≤ d.tn
  t3 : d.tn ≤ 3
  p0 : 0 ≤ d.pa
  p1 : d.pa ≤ 255
  c0 : 0 ≤ d.co
  c1 : d.co ≤ 1000
set_option maxHeartbeats 4000000 in
set_option maxRecDepth 100000 in
theorem eats_spec {B : Nat} {H : Heap} {g : Gu} {d : Di} (hB : B ≤ H.n) (hg : RaOk g) (hd : DiOk d) :
    CallB Try.prog B 110 [Guv g, Div d] H (fun r H' => (∃ c, r = VI c ∧ (c = 1 ↔ sureB g d = true)) ∧ Keep H H') := by
  obtain ⟨nm, ra, ho, neI, maI⟩ := g
  obtain ⟨tn, paI, co⟩ := d
  obtain ⟨ne, rfl⟩ : ∃ n : Nat, neI = (n : Int) := ⟨neI.toNat, by have : 0 ≤ neI := hg.ne; omega⟩
  obtain ⟨ma, rfl⟩ : ∃ n : Nat, maI = (n : Int) := ⟨maI.toNat, by have : 0 ≤ maI := hg.ma; omega⟩
  obtain ⟨pa, rfl⟩ : ∃ n : Nat, paI = (n : Int) := ⟨paI.toNat, by have : 0 ≤ paI := hd.p0; omega⟩
  have h1 : (ne : Int) ≤ 255 := hg.ne'
  have h2 : (ma : Int) ≤ 255 := hg.ma'
  have h3 : (pa : Int) ≤ 255 := hd.p1
  have es : sureB ⟨nm, ra, ho, (ne : Int), (ma : Int)⟩ ⟨tn, (pa : Int), co⟩ = ((pa &&& ne == 0) && (pa &&& ma == 0)) := rfl
  rw [es]
  refine CV.enter callees false rfl Try.func110 rfl (by kernel_rfl) (Nat.le_of_ble_eq_true rfl) hB ?_
  repeat' first
    | refine CO.cons rfl ?_
    | refine CV.seq ?_
    | refine CV.region callees ?_
    | fail
  refine ⟨(by simp only [notTuple]), ?_⟩
  rw [boxG]
  generalize hs0 : Heap.new H _ = H0
  have hg0 := new_get hs0
  have k0 := new_keep hs0
  have n0 := new_n hs0
  obtain ⟨b0, hbn0⟩ : ∃ b, Heap.n H = b := ⟨_, rfl⟩
  rw [hbn0] at hg0 n0 ⊢
  repeat' first
    | refine CO.cons rfl ?_
    | fail
  refine ⟨(by simp only [notTuple]), ?_⟩
  rw [boxD]
  generalize hs1 : Heap.new H0 _ = H1
  have hg1 := new_get hs1
  have k1 := new_keep hs1
  have n1 := new_n hs1
  obtain ⟨b1, hbn1⟩ : ∃ b, Heap.n H0 = b := ⟨_, rfl⟩
  rw [hbn1] at hg1 n1 ⊢
  have k01 := k0.trans k1
  have hg01 := (k1.2 b0 (by omega)).trans hg0
  have e1 : aload Try.prog 3 H1 (.pointer (some ⟨b1, 0 + 1, none⟩)) = some (VI (pa : Int)) := cell_load ag3 hg1 rfl
  have e2 : aload Try.prog 3 H1 (.pointer (some ⟨b0, 0 + 3, none⟩)) = some (VI (ne : Int)) := cell_load ag3 hg01 rfl
  have e3 : aload Try.prog 3 H1 (.pointer (some ⟨b0, 0 + 4, none⟩)) = some (VI (ma : Int)) := cell_load ag3 hg01 rfl
  obtain ⟨z1, hz1⟩ : ∃ z, pa &&& ne = z := ⟨_, rfl⟩
  obtain ⟨z2, hz2⟩ : ∃ z, pa &&& ma = z := ⟨_, rfl⟩
  rw [hz1, hz2]
  by_cases c1 : z1 = 0
  · by_cases c2 : z2 = 0
    · repeat' first
        | refine CO.cons rfl ?_
        | refine CO.nil ?_
        | refine CV.seq ?_
        | refine CV.region callees ?_
        | refine CV.cond ?_
        | refine CV.block ?_
        | refine CV.skip ?_
        | refine CV.ret ?_
        | (refine ⟨_, fS foD1 (by decide), ?_⟩)
        | (refine ⟨_, fS foG3 (by decide), ?_⟩)
        | (refine ⟨_, fS foG4 (by decide), ?_⟩)
        | (refine ⟨_, e1, ?_⟩)
        | (refine ⟨_, e2, ?_⟩)
        | (refine ⟨_, e3, ?_⟩)
        | (refine ⟨_, fun tm ha => andIs rfl (ev_tmp ha rfl) (ev_tmp ha rfl) (by omega) (by omega), ?_⟩)
        | (rw [hz1])
        | (rw [hz2])
        | (refine ⟨fun _ => ?_, fun _ => ?_⟩ <;> first | (exfalso; omega) | skip)
        | fail
      exact ⟨rfl, ⟨_, rfl, by rw [c1, c2]; simp⟩, k01⟩
    · repeat' first
        | refine CO.cons rfl ?_
        | refine CO.nil ?_
        | refine CV.seq ?_
        | refine CV.region callees ?_
        | refine CV.cond ?_
        | refine CV.block ?_
        | refine CV.ret ?_
        | (refine ⟨_, fS foD1 (by decide), ?_⟩)
        | (refine ⟨_, fS foG3 (by decide), ?_⟩)
        | (refine ⟨_, fS foG4 (by decide), ?_⟩)
        | (refine ⟨_, e1, ?_⟩)
        | (refine ⟨_, e2, ?_⟩)
        | (refine ⟨_, e3, ?_⟩)
        | (refine ⟨_, fun tm ha => andIs rfl (ev_tmp ha rfl) (ev_tmp ha rfl) (by omega) (by omega), ?_⟩)
        | (rw [hz1])
        | (rw [hz2])
        | (refine ⟨fun _ => ?_, fun _ => ?_⟩ <;> first | (exfalso; omega) | skip)
        | fail
      exact ⟨rfl, ⟨_, rfl, by simp [c2]⟩, k01⟩
  · repeat' first
      | refine CO.cons rfl ?_
      | refine CO.nil ?_
      | refine CV.seq ?_
      | refine CV.region callees ?_
      | refine CV.cond ?_
      | refine CV.block ?_
      | refine CV.ret ?_
      | (refine ⟨_, fS foD1 (by decide), ?_⟩)
      | (refine ⟨_, fS foG3 (by decide), ?_⟩)
      | (refine ⟨_, e1, ?_⟩)
      | (refine ⟨_, e2, ?_⟩)
      | (refine ⟨_, fun tm ha => andIs rfl (ev_tmp ha rfl) (ev_tmp ha rfl) (by omega) (by omega), ?_⟩)
      | (rw [hz1])
      | (refine ⟨fun _ => ?_, fun _ => ?_⟩ <;> first | (exfalso; omega) | skip)
      | fail
    exact ⟨rfl, ⟨_, rfl, by simp [c1]⟩, k01⟩
end Go.Proofs.Ytlamceokhbigaaa

