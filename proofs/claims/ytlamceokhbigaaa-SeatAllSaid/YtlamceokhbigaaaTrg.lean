
/- In how many orders one sits before another: the table. -/
import Derived.Test.YtlamceokhbigaaaTqg
set_option linter.unusedVariables false
set_option linter.unusedSimpArgs false
namespace Go.Proofs.Ytlamceokhbigaaa
open Go.AI
def upd (f : Int → Int → Int) (x y : Int) : Int → Int → Int := fun a b => if a = x ∧ b = y then f a b + 1 else f a b
def innF (f : Int → Int → Int) (x : Int) : List Int → Int → Int → Int
  | [] => f
  | y :: r => innF (upd f x y) x r
def outF (f : Int → Int → Int) : List Int → Int → Int → Int
  | [] => f
  | x :: r => outF (innF f x r) r
/-- Whether one sits before another. -/
def sits : List Int → Int → Int → Bool
  | [], _, _ => false
  | z :: r, a, b => (decide (a = z) && decide (b ∈ r)) || sits r a b
theorem sits_mem : ∀ {o : List Int} {a b : Int}, sits o a b = true → a ∈ o ∧ b ∈ o
  | [], a, b, h => by cases h
  | z :: r, a, b, h => by
    simp only [sits, Bool.or_eq_true, Bool.and_eq_true, decide_eq_true_eq] at h
    rcases h with ⟨rfl, h⟩ | h
    · exact ⟨by simp, List.mem_cons_of_mem _ h⟩
    · have := sits_mem h
      exact ⟨List.mem_cons_of_mem _ this.1, List.mem_cons_of_mem _ this.2⟩
theorem innF_at {x a b : Int} : ∀ {r : List Int} {f : Int → Int → Int}, r.Nodup → innF f x r a b = f a b + if a = x ∧ b ∈ r then 1 else 0
  | [], f, _ => by simp [innF]
  | y :: r, f, nd => by
    obtain ⟨h1, h2⟩ := List.nodup_cons.1 nd
    rw [innF, innF_at h2]
    unfold upd
    by_cases ha : a = x
    · by_cases hb : b = y
      · have hr : ¬ b ∈ r := hb ▸ h1
        rw [if_pos ⟨ha, hb⟩, if_neg (fun h => hr h.2), if_pos ⟨ha, by rw [hb]; simp⟩]
        omega
      · rw [if_neg (fun h => hb h.2)]
        by_cases hr : b ∈ r
        · rw [if_pos ⟨ha, hr⟩, if_pos ⟨ha, List.mem_cons_of_mem _ hr⟩]
        · rw [if_neg (fun h => hr h.2), if_neg (fun h => by rcases List.mem_cons.1 h.2 with e | e; exact hb e; exact hr e)]
    · rw [if_neg (fun h => ha h.1), if_neg (fun h => ha h.1), if_neg (fun h => ha h.1)]
theorem outF_at {a b : Int} : ∀ {o : List Int} {f : Int → Int → Int}, o.Nodup → outF f o a b = f a b + if sits o a b = true then 1 else 0
  | [], f, _ => by simp [outF, sits]
  | z :: r, f, nd => by
    obtain ⟨h1, h2⟩ := List.nodup_cons.1 nd
    rw [outF, outF_at h2, innF_at h2]
    by_cases c : a = z ∧ b ∈ r
    · have hs : ¬ sits r a b = true := fun h => h1 (c.1 ▸ (sits_mem h).1)
      have hs2 : sits (z :: r) a b = true := by simp [sits, c.1, c.2]
      rw [if_pos c, if_neg hs, if_pos hs2]
      omega
    · rw [if_neg c]
      have hs2 : sits (z :: r) a b = sits r a b := by
        simp only [sits]
        have : (decide (a = z) && decide (b ∈ r)) = false := by
          rw [← Bool.decide_and]
          exact decide_eq_false c
        rw [this, Bool.false_or]
      rw [hs2]
      omega
/-- In how many of some orders. -/
def cnt (F : List (List Int)) (a b : Int) : Int := (F.countP (fun o => sits o a b) : Nat)
theorem cnt_nil {a b : Int} : cnt [] a b = 0 := rfl
theorem cnt_snoc {F : List (List Int)} {o : List Int} {a b : Int} : cnt (F ++ [o]) a b = cnt F a b + if sits o a b = true then 1 else 0 := by
  unfold cnt
  rw [List.countP_append, List.countP_singleton]
  split <;> simp
theorem cnt_bd {F : List (List Int)} {a b : Int} : 0 ≤ cnt F a b ∧ cnt F a b ≤ F.length := by
  have := List.countP_le_length (p := fun o => sits o a b) (l := F)
  unfold cnt
  omega
theorem outF_cnt {F : List (List Int)} {o : List Int} (nd : o.Nodup) : outF (cnt F) o = cnt (F ++ [o]) := by
  funext a b
  rw [outF_at nd, cnt_snoc]
/-- The table, row by row. -/
def tabF (f : Int → Int → Int) : List Value := (List.range 49).map fun k => VI (f ((k / 7 : Nat) : Int) ((k % 7 : Nat) : Int))
theorem tabF_len {f : Int → Int → Int} : (tabF f).length = 49 := by simp [tabF]
theorem tabF_at {f : Int → Int → Int} {x y : Int} (h0 : 0 ≤ x) (h1 : x < 7) (h2 : 0 ≤ y) (h3 : y < 7) {i : Nat} (hi : i = x.toNat * 7 + y.toNat) : (tabF f)[i]? = some (VI (f x y)) := by
  unfold tabF
  rw [List.getElem?_map, List.getElem?_range (by omega)]
  have e1 : ((i / 7 : Nat) : Int) = x := by omega
  have e2 : ((i % 7 : Nat) : Int) = y := by omega
  simp only [Option.map_some, e1, e2]
theorem tabF_set {f : Int → Int → Int} {x y : Int} (h0 : 0 ≤ x) (h1 : x < 7) (h2 : 0 ≤ y) (h3 : y < 7) {i : Nat} (hi : i = x.toNat * 7 + y.toNat) : (tabF f).set i (VI (f x y + 1)) = tabF (upd f x y) := by
  apply List.ext_getElem (by rw [List.length_set, tabF_len, tabF_len])
  intro k hk1 hk2
  rw [tabF_len] at hk2
  rw [List.getElem_set]
  simp only [tabF, List.getElem_map, List.getElem_range]
  unfold upd
  by_cases c : i = k
  · have e1 : ((k / 7 : Nat) : Int) = x := by omega
    have e2 : ((k % 7 : Nat) : Int) = y := by omega
    rw [if_pos c, e1, e2, if_pos ⟨rfl, rfl⟩]
  · rw [if_neg c, if_neg (fun h => c (by have := h.1; have := h.2; omega))]
theorem tabF_zero : tabF (cnt []) = (List.replicate 49 (VI 0)) := by
  unfold tabF
  simp only [cnt_nil]
  rfl
def verd (s a : Int) : Int := if s = 0 then 2 else if s = a then 1 else 3
theorem un111 : Try.prog.underlying 111 = some (.array 7 110) := by kernel_rfl
theorem sz110 : sizeB Try.prog 110 = some 7 := by kernel_rfl
theorem zc111 : zeroCellsW Try.prog 111 = some (List.replicate 49 (VI 0)) := by kernel_rfl
theorem al111 {H : Heap} : sAlloc Try.prog H 111 = some (.pointer (some ⟨H.n, 0, none⟩), H.new (.cells (List.replicate 49 (VI 0)) 111 1), H.n) := alloc_ofW zc111
theorem arr77 {b i : Nat} {k : Int} {kd : IntKind} (h0 : 0 ≤ k) (h1 : k < 7) : aindexAddr Try.prog 111 (.pointer (some ⟨b, i, none⟩)) (.int kd k) = some (.pointer (some ⟨b, i + k.toNat * 7, none⟩)) := array_addrW un111 sz110 h0 h1
set_option maxRecDepth 100000 in
theorem verdict_spec {B : Nat} {H : Heap} {s a : Int} (hB : B ≤ H.n) :
    CallB Try.prog B 81 [VI s, VI a] H (fun r H' => r = VI (verd s a) ∧ H' = H) := by
  have hv : verd s a = if s = 0 then 2 else if s = a then 1 else 3 := rfl
  refine CV.enter callees false rfl Try.func81 rfl (by kernel_rfl) (Nat.le_of_ble_eq_true rfl) hB ?_
  by_cases h0 : s = 0
  · rw [if_pos h0] at hv
    rw [hv]
    repeat' first
      | refine CO.cons rfl ?_
      | refine CO.nil ?_
      | refine CV.seq ?_
      | refine CV.region callees ?_
      | refine CV.cond ?_
      | refine CV.block ?_
      | refine CV.ret ?_
      | (refine ⟨fun _ => ?_, fun _ => ?_⟩ <;> first | (exfalso; omega) | skip)
      | fail
    exact ⟨rfl, rfl, rfl⟩
  · rw [if_neg h0] at hv
    by_cases h1 : s = a
    · rw [if_pos h1] at hv
      rw [hv]
      repeat' first
        | refine CO.cons rfl ?_
        | refine CO.nil ?_
        | refine CV.seq ?_
        | refine CV.region callees ?_
        | refine CV.cond ?_
        | refine CV.block ?_
        | refine CV.ret ?_
        | (refine ⟨fun _ => ?_, fun _ => ?_⟩ <;> first | (exfalso; omega) | skip)
        | fail
      exact ⟨rfl, rfl, rfl⟩
    · rw [if_neg h1] at hv
      rw [hv]
      repeat' first
        | refine CO.cons rfl ?_
        | refine CO.nil ?_
        | refine CV.seq ?_
        | refine CV.region callees ?_
        | refine CV.cond ?_
        | refine CV.block ?_
        | refine CV.skip ?_
        | refine CV.ret ?_
        | (refine ⟨fun _ => ?_, fun _ => ?_⟩ <;> first | (exfalso; omega) | skip)
        | fail
      exact ⟨rfl, rfl, rfl⟩
end Go.Proofs.Ytlamceokhbigaaa
