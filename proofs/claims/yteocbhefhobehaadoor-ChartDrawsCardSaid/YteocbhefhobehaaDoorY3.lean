/- Several texts in one. -/
import Derived.Test.YteocbhefhobehaaDoorX4
import Derived.Test.YteocbhefhobehaaDoorY2
set_option linter.unusedVariables false
set_option linter.unusedSimpArgs false
/- Each function's code is of the form that the machine knows. -/
namespace Go.Proofs.YteocbhefhobehaaDoor
open Go.AI

theorem ok3 : codeOk Tryd.f3.ntmps (Tryd.f3.body.getD .skip) = true := by kernel_rfl
theorem ok4 : codeOk Tryd.f4.ntmps (Tryd.f4.body.getD .skip) = true := by kernel_rfl
theorem ok5 : codeOk Tryd.f5.ntmps (Tryd.f5.body.getD .skip) = true := by kernel_rfl
theorem ok6 : codeOk Tryd.f6.ntmps (Tryd.f6.body.getD .skip) = true := by kernel_rfl
theorem ok7 : codeOk Tryd.f7.ntmps (Tryd.f7.body.getD .skip) = true := by kernel_rfl
theorem ok8 : codeOk Tryd.f8.ntmps (Tryd.f8.body.getD .skip) = true := by kernel_rfl
theorem ok9 : codeOk Tryd.f9.ntmps (Tryd.f9.body.getD .skip) = true := by kernel_rfl
theorem ok10 : codeOk Tryd.f10.ntmps (Tryd.f10.body.getD .skip) = true := by kernel_rfl
theorem ok12 : codeOk Tryd.f12.ntmps (Tryd.f12.body.getD .skip) = true := by kernel_rfl
theorem ok13 : codeOk Tryd.f13.ntmps (Tryd.f13.body.getD .skip) = true := by kernel_rfl
theorem ok14 : codeOk Tryd.f14.ntmps (Tryd.f14.body.getD .skip) = true := by kernel_rfl
theorem ok15 : codeOk Tryd.f15.ntmps (Tryd.f15.body.getD .skip) = true := by kernel_rfl
theorem ok16 : codeOk Tryd.f16.ntmps (Tryd.f16.body.getD .skip) = true := by kernel_rfl
theorem ok17 : codeOk Tryd.f17.ntmps (Tryd.f17.body.getD .skip) = true := by kernel_rfl
theorem ok18 : codeOk Tryd.f18.ntmps (Tryd.f18.body.getD .skip) = true := by kernel_rfl
theorem ok19 : codeOk Tryd.f19.ntmps (Tryd.f19.body.getD .skip) = true := by kernel_rfl
theorem ok20 : codeOk Tryd.f20.ntmps (Tryd.f20.body.getD .skip) = true := by kernel_rfl
theorem ok21 : codeOk Tryd.f21.ntmps (Tryd.f21.body.getD .skip) = true := by kernel_rfl
theorem ok22 : codeOk Tryd.f22.ntmps (Tryd.f22.body.getD .skip) = true := by kernel_rfl
theorem ok23 : codeOk Tryd.f23.ntmps (Tryd.f23.body.getD .skip) = true := by kernel_rfl
theorem ok24 : codeOk Tryd.f24.ntmps (Tryd.f24.body.getD .skip) = true := by kernel_rfl
theorem ok27 : codeOk Tryd.f27.ntmps (Tryd.f27.body.getD .skip) = true := by kernel_rfl
theorem ok29 : codeOk Tryd.f29.ntmps (Tryd.f29.body.getD .skip) = true := by kernel_rfl
theorem ok31 : codeOk Tryd.f31.ntmps (Tryd.f31.body.getD .skip) = true := by kernel_rfl
theorem ok32 : codeOk Tryd.f32.ntmps (Tryd.f32.body.getD .skip) = true := by kernel_rfl
theorem ok33 : codeOk Tryd.f33.ntmps (Tryd.f33.body.getD .skip) = true := by kernel_rfl
theorem ok34 : codeOk Tryd.f34.ntmps (Tryd.f34.body.getD .skip) = true := by kernel_rfl
theorem ok35 : codeOk Tryd.f35.ntmps (Tryd.f35.body.getD .skip) = true := by kernel_rfl
theorem ok36 : codeOk Tryd.f36.ntmps (Tryd.f36.body.getD .skip) = true := by kernel_rfl
theorem ok37 : codeOk Tryd.f37.ntmps (Tryd.f37.body.getD .skip) = true := by kernel_rfl
theorem ok38 : codeOk Tryd.f38.ntmps (Tryd.f38.body.getD .skip) = true := by kernel_rfl
theorem ok39 : codeOk Tryd.f39.ntmps (Tryd.f39.body.getD .skip) = true := by kernel_rfl
theorem ok40 : codeOk Tryd.f40.ntmps (Tryd.f40.body.getD .skip) = true := by kernel_rfl
theorem ok42 : codeOk Tryd.f42.ntmps (Tryd.f42.body.getD .skip) = true := by kernel_rfl
theorem ok43 : codeOk Tryd.f43.ntmps (Tryd.f43.body.getD .skip) = true := by kernel_rfl
theorem ok45 : codeOk Tryd.f45.ntmps (Tryd.f45.body.getD .skip) = true := by kernel_rfl
theorem ok46 : codeOk Tryd.f46.ntmps (Tryd.f46.body.getD .skip) = true := by kernel_rfl
theorem ok47 : codeOk Tryd.f47.ntmps (Tryd.f47.body.getD .skip) = true := by kernel_rfl
theorem ok48 : codeOk Tryd.f48.ntmps (Tryd.f48.body.getD .skip) = true := by kernel_rfl
theorem ok49 : codeOk Tryd.f49.ntmps (Tryd.f49.body.getD .skip) = true := by kernel_rfl
theorem ok50 : codeOk Tryd.f50.ntmps (Tryd.f50.body.getD .skip) = true := by kernel_rfl
theorem ok51 : codeOk Tryd.f51.ntmps (Tryd.f51.body.getD .skip) = true := by kernel_rfl
theorem ok52 : codeOk Tryd.f52.ntmps (Tryd.f52.body.getD .skip) = true := by kernel_rfl
theorem ok53 : codeOk Tryd.f53.ntmps (Tryd.f53.body.getD .skip) = true := by kernel_rfl
theorem ok54 : codeOk Tryd.f54.ntmps (Tryd.f54.body.getD .skip) = true := by kernel_rfl
theorem ok55 : codeOk Tryd.f55.ntmps (Tryd.f55.body.getD .skip) = true := by kernel_rfl
theorem ok56 : codeOk Tryd.f56.ntmps (Tryd.f56.body.getD .skip) = true := by kernel_rfl
theorem ok57 : codeOk Tryd.f57.ntmps (Tryd.f57.body.getD .skip) = true := by kernel_rfl
theorem ok58 : codeOk Tryd.f58.ntmps (Tryd.f58.body.getD .skip) = true := by kernel_rfl
theorem ok59 : codeOk Tryd.f59.ntmps (Tryd.f59.body.getD .skip) = true := by kernel_rfl
theorem ok60 : codeOk Tryd.f60.ntmps (Tryd.f60.body.getD .skip) = true := by kernel_rfl
theorem ok61 : codeOk Tryd.f61.ntmps (Tryd.f61.body.getD .skip) = true := by kernel_rfl
theorem ok62 : codeOk Tryd.f62.ntmps (Tryd.f62.body.getD .skip) = true := by kernel_rfl
theorem ok63 : codeOk Tryd.f63.ntmps (Tryd.f63.body.getD .skip) = true := by kernel_rfl
theorem ok65 : codeOk Tryd.f65.ntmps (Tryd.f65.body.getD .skip) = true := by kernel_rfl
theorem ok66 : codeOk Tryd.f66.ntmps (Tryd.f66.body.getD .skip) = true := by kernel_rfl
theorem ok67 : codeOk Tryd.f67.ntmps (Tryd.f67.body.getD .skip) = true := by kernel_rfl
theorem ok68 : codeOk Tryd.f68.ntmps (Tryd.f68.body.getD .skip) = true := by kernel_rfl
theorem ok69 : codeOk Tryd.f69.ntmps (Tryd.f69.body.getD .skip) = true := by kernel_rfl
theorem ok70 : codeOk Tryd.f70.ntmps (Tryd.f70.body.getD .skip) = true := by kernel_rfl
theorem ok71 : codeOk Tryd.f71.ntmps (Tryd.f71.body.getD .skip) = true := by kernel_rfl
theorem ok72 : codeOk Tryd.f72.ntmps (Tryd.f72.body.getD .skip) = true := by kernel_rfl
theorem ok73 : codeOk Tryd.f73.ntmps (Tryd.f73.body.getD .skip) = true := by kernel_rfl
theorem ok74 : codeOk Tryd.f74.ntmps (Tryd.f74.body.getD .skip) = true := by kernel_rfl
theorem ok76 : codeOk Tryd.f76.ntmps (Tryd.f76.body.getD .skip) = true := by kernel_rfl
theorem ok77 : codeOk Tryd.f77.ntmps (Tryd.f77.body.getD .skip) = true := by kernel_rfl
theorem ok78 : codeOk Tryd.f78.ntmps (Tryd.f78.body.getD .skip) = true := by kernel_rfl
theorem ok79 : codeOk Tryd.f79.ntmps (Tryd.f79.body.getD .skip) = true := by kernel_rfl
theorem ok81 : codeOk Tryd.f81.ntmps (Tryd.f81.body.getD .skip) = true := by kernel_rfl
theorem ok82 : codeOk Tryd.f82.ntmps (Tryd.f82.body.getD .skip) = true := by kernel_rfl
theorem ok83 : codeOk Tryd.f83.ntmps (Tryd.f83.body.getD .skip) = true := by kernel_rfl
theorem ok84 : codeOk Tryd.f84.ntmps (Tryd.f84.body.getD .skip) = true := by kernel_rfl
theorem ok85 : codeOk Tryd.f85.ntmps (Tryd.f85.body.getD .skip) = true := by kernel_rfl
theorem ok86 : codeOk Tryd.f86.ntmps (Tryd.f86.body.getD .skip) = true := by kernel_rfl
theorem ok87 : codeOk Tryd.f87.ntmps (Tryd.f87.body.getD .skip) = true := by kernel_rfl
theorem ok88 : codeOk Tryd.f88.ntmps (Tryd.f88.body.getD .skip) = true := by kernel_rfl
theorem ok89 : codeOk Tryd.f89.ntmps (Tryd.f89.body.getD .skip) = true := by kernel_rfl
theorem ok91 : codeOk Tryd.f91.ntmps (Tryd.f91.body.getD .skip) = true := by kernel_rfl
theorem ok93 : codeOk Tryd.f93.ntmps (Tryd.f93.body.getD .skip) = true := by kernel_rfl
theorem ok94 : codeOk Tryd.f94.ntmps (Tryd.f94.body.getD .skip) = true := by kernel_rfl
theorem ok95 : codeOk Tryd.f95.ntmps (Tryd.f95.body.getD .skip) = true := by kernel_rfl
theorem ok96 : codeOk Tryd.f96.ntmps (Tryd.f96.body.getD .skip) = true := by kernel_rfl
theorem ok97 : codeOk Tryd.f97.ntmps (Tryd.f97.body.getD .skip) = true := by kernel_rfl
theorem ok98 : codeOk Tryd.f98.ntmps (Tryd.f98.body.getD .skip) = true := by kernel_rfl
theorem ok99 : codeOk Tryd.f99.ntmps (Tryd.f99.body.getD .skip) = true := by kernel_rfl
theorem ok100 : codeOk Tryd.f100.ntmps (Tryd.f100.body.getD .skip) = true := by kernel_rfl
theorem ok101 : codeOk Tryd.f101.ntmps (Tryd.f101.body.getD .skip) = true := by kernel_rfl
theorem ok102 : codeOk Tryd.f102.ntmps (Tryd.f102.body.getD .skip) = true := by kernel_rfl
theorem ok103 : codeOk Tryd.f103.ntmps (Tryd.f103.body.getD .skip) = true := by kernel_rfl
theorem ok104 : codeOk Tryd.f104.ntmps (Tryd.f104.body.getD .skip) = true := by kernel_rfl
theorem ok105 : codeOk Tryd.f105.ntmps (Tryd.f105.body.getD .skip) = true := by kernel_rfl
theorem ok106 : codeOk Tryd.f106.ntmps (Tryd.f106.body.getD .skip) = true := by kernel_rfl
theorem ok107 : codeOk Tryd.f107.ntmps (Tryd.f107.body.getD .skip) = true := by kernel_rfl
theorem ok108 : codeOk Tryd.f108.ntmps (Tryd.f108.body.getD .skip) = true := by kernel_rfl
theorem ok109 : codeOk Tryd.f109.ntmps (Tryd.f109.body.getD .skip) = true := by kernel_rfl
theorem ok110 : codeOk Tryd.f110.ntmps (Tryd.f110.body.getD .skip) = true := by kernel_rfl
theorem ok111 : codeOk Tryd.f111.ntmps (Tryd.f111.body.getD .skip) = true := by kernel_rfl
theorem ok112 : codeOk Tryd.f112.ntmps (Tryd.f112.body.getD .skip) = true := by kernel_rfl
theorem ok113 : codeOk Tryd.f113.ntmps (Tryd.f113.body.getD .skip) = true := by kernel_rfl
theorem ok114 : codeOk Tryd.f114.ntmps (Tryd.f114.body.getD .skip) = true := by kernel_rfl
theorem ok115 : codeOk Tryd.f115.ntmps (Tryd.f115.body.getD .skip) = true := by kernel_rfl
theorem ok116 : codeOk Tryd.f116.ntmps (Tryd.f116.body.getD .skip) = true := by kernel_rfl
theorem ok117 : codeOk Tryd.f117.ntmps (Tryd.f117.body.getD .skip) = true := by kernel_rfl
theorem ok118 : codeOk Tryd.f118.ntmps (Tryd.f118.body.getD .skip) = true := by kernel_rfl
theorem ok119 : codeOk Tryd.f119.ntmps (Tryd.f119.body.getD .skip) = true := by kernel_rfl
theorem ok120 : codeOk Tryd.f120.ntmps (Tryd.f120.body.getD .skip) = true := by kernel_rfl
theorem ok121 : codeOk Tryd.f121.ntmps (Tryd.f121.body.getD .skip) = true := by kernel_rfl
theorem ok122 : codeOk Tryd.f122.ntmps (Tryd.f122.body.getD .skip) = true := by kernel_rfl
theorem ok123 : codeOk Tryd.f123.ntmps (Tryd.f123.body.getD .skip) = true := by kernel_rfl
theorem ok124 : codeOk Tryd.f124.ntmps (Tryd.f124.body.getD .skip) = true := by kernel_rfl
theorem ok125 : codeOk Tryd.f125.ntmps (Tryd.f125.body.getD .skip) = true := by kernel_rfl
theorem ok126 : codeOk Tryd.f126.ntmps (Tryd.f126.body.getD .skip) = true := by kernel_rfl
theorem ok127 : codeOk Tryd.f127.ntmps (Tryd.f127.body.getD .skip) = true := by kernel_rfl
theorem ok128 : codeOk Tryd.f128.ntmps (Tryd.f128.body.getD .skip) = true := by kernel_rfl
theorem ok129 : codeOk Tryd.f129.ntmps (Tryd.f129.body.getD .skip) = true := by kernel_rfl
theorem ok130 : codeOk Tryd.f130.ntmps (Tryd.f130.body.getD .skip) = true := by kernel_rfl
theorem ok131 : codeOk Tryd.f131.ntmps (Tryd.f131.body.getD .skip) = true := by kernel_rfl
theorem ok132 : codeOk Tryd.f132.ntmps (Tryd.f132.body.getD .skip) = true := by kernel_rfl
theorem ok133 : codeOk Tryd.f133.ntmps (Tryd.f133.body.getD .skip) = true := by kernel_rfl
theorem ok134 : codeOk Tryd.f134.ntmps (Tryd.f134.body.getD .skip) = true := by kernel_rfl
theorem ok135 : codeOk Tryd.f135.ntmps (Tryd.f135.body.getD .skip) = true := by kernel_rfl
theorem ok136 : codeOk Tryd.f136.ntmps (Tryd.f136.body.getD .skip) = true := by kernel_rfl
theorem ok137 : codeOk Tryd.f137.ntmps (Tryd.f137.body.getD .skip) = true := by kernel_rfl
theorem ok138 : codeOk Tryd.f138.ntmps (Tryd.f138.body.getD .skip) = true := by kernel_rfl
theorem ok139 : codeOk Tryd.f139.ntmps (Tryd.f139.body.getD .skip) = true := by kernel_rfl
theorem ok140 : codeOk Tryd.f140.ntmps (Tryd.f140.body.getD .skip) = true := by kernel_rfl
theorem ok141 : codeOk Tryd.f141.ntmps (Tryd.f141.body.getD .skip) = true := by kernel_rfl
theorem ok142 : codeOk Tryd.f142.ntmps (Tryd.f142.body.getD .skip) = true := by kernel_rfl
theorem ok143 : codeOk Tryd.f143.ntmps (Tryd.f143.body.getD .skip) = true := by kernel_rfl
theorem ok144 : codeOk Tryd.f144.ntmps (Tryd.f144.body.getD .skip) = true := by kernel_rfl
theorem ok145 : codeOk Tryd.f145.ntmps (Tryd.f145.body.getD .skip) = true := by kernel_rfl
theorem ok146 : codeOk Tryd.f146.ntmps (Tryd.f146.body.getD .skip) = true := by kernel_rfl
theorem ok147 : codeOk Tryd.f147.ntmps (Tryd.f147.body.getD .skip) = true := by kernel_rfl
theorem ok148 : codeOk Tryd.f148.ntmps (Tryd.f148.body.getD .skip) = true := by kernel_rfl
theorem ok149 : codeOk Tryd.f149.ntmps (Tryd.f149.body.getD .skip) = true := by kernel_rfl
theorem ok150 : codeOk Tryd.f150.ntmps (Tryd.f150.body.getD .skip) = true := by kernel_rfl
theorem ok151 : codeOk Tryd.f151.ntmps (Tryd.f151.body.getD .skip) = true := by kernel_rfl
theorem ok152 : codeOk Tryd.f152.ntmps (Tryd.f152.body.getD .skip) = true := by kernel_rfl
theorem ok153 : codeOk Tryd.f153.ntmps (Tryd.f153.body.getD .skip) = true := by kernel_rfl
theorem ok154 : codeOk Tryd.f154.ntmps (Tryd.f154.body.getD .skip) = true := by kernel_rfl
theorem ok155 : codeOk Tryd.f155.ntmps (Tryd.f155.body.getD .skip) = true := by kernel_rfl
theorem ok156 : codeOk Tryd.f156.ntmps (Tryd.f156.body.getD .skip) = true := by kernel_rfl
theorem ok157 : codeOk Tryd.f157.ntmps (Tryd.f157.body.getD .skip) = true := by kernel_rfl
theorem ok158 : codeOk Tryd.f158.ntmps (Tryd.f158.body.getD .skip) = true := by kernel_rfl
theorem ok159 : codeOk Tryd.f159.ntmps (Tryd.f159.body.getD .skip) = true := by kernel_rfl
theorem ok160 : codeOk Tryd.f160.ntmps (Tryd.f160.body.getD .skip) = true := by kernel_rfl
theorem ok161 : codeOk Tryd.f161.ntmps (Tryd.f161.body.getD .skip) = true := by kernel_rfl
theorem ok162 : codeOk Tryd.f162.ntmps (Tryd.f162.body.getD .skip) = true := by kernel_rfl
theorem ok163 : codeOk Tryd.f163.ntmps (Tryd.f163.body.getD .skip) = true := by kernel_rfl
theorem ok164 : codeOk Tryd.f164.ntmps (Tryd.f164.body.getD .skip) = true := by kernel_rfl
theorem ok165 : codeOk Tryd.f165.ntmps (Tryd.f165.body.getD .skip) = true := by kernel_rfl
theorem ok166 : codeOk Tryd.f166.ntmps (Tryd.f166.body.getD .skip) = true := by kernel_rfl
end Go.Proofs.YteocbhefhobehaaDoor

/- Boxes of numbers, and partitions made of them. -/
namespace Go.Proofs.YteocbhefhobehaaDoor
open Go.AI
theorem fo74 : fieldOff Tryd.prog 74 0 = some (0, 1) := by kernel_rfl
theorem sz72 : sizeB Tryd.prog 72 = some 1 := by kernel_rfl
theorem ag72 : isAggB Tryd.prog 72 = some false := by kernel_rfl
theorem un72 : Tryd.prog.underlying 72 = some (.int .u64) := by kernel_rfl

/-- A box: a variable of one word. -/
def Box (b : Nat) (H : Heap) : Prop := b < H.n ∧ ∃ w, H.get b = some (.cells [.int .u64 w] 74 1)
def bp (b : Nat) : Value := .pointer (some ⟨b, 0, none⟩)
theorem box_addr {b : Nat} : afieldAddr Tryd.prog 74 (bp b) 0 = some (bp b) := field_addr fo74 (by decide)
theorem box_load {b : Nat} {H : Heap} {w : Int} (h : H.get b = some (.cells [.int .u64 w] 74 1)) : aload Tryd.prog 72 H (bp b) = some (.int .u64 w) := by
  simp only [aload, bp, h, ag72]; rfl
theorem box_store {b : Nat} {H : Heap} {w r : Int} (h : H.get b = some (.cells [.int .u64 w] 74 1)) : astore Tryd.prog 72 H (.int .u64 r) (bp b) = some (H.set b (.cells [.int .u64 r] 74 1), b) := by
  simp only [astore, bp, h, sz72, Value.cells]; rfl
theorem Box.keepX {b : Nat} {H : Heap} {r : Int} (h : Box b H) : Box b (H.set b (.cells [.int .u64 r] 74 1)) := ⟨h.1, r, Heap.get_set_eq _ _ _⟩
theorem Box.keep {b : Nat} {H H' : Heap} (h : Box b H) (k : Keep H H') : Box b H' := ⟨Nat.lt_of_lt_of_le h.1 k.1, by obtain ⟨w, hw⟩ := h.2; exact ⟨w, by rw [k.2 b h.1]; exact hw⟩⟩
theorem KeepX.set {b : Nat} (H : Heap) (o : AObj) : KeepX b H (H.set b o) := ⟨Nat.le_refl _, fun c _ hc => Heap.get_set_ne _ _ (fun h => hc h.symm)⟩
theorem wrap64 (n : Int) : 0 ≤ IntKind.wrap .u64 n ∧ IntKind.wrap .u64 n < 18446744073709551616 := by
  simp only [IntKind.wrap, IntKind.signed, IntKind.bits]
  simp
  omega
theorem wrapI {n : Int} (h0 : -9223372036854775808 ≤ n) (h1 : n < 9223372036854775808) : IntKind.wrap .i64 n = n := by
  simp only [IntKind.wrap, IntKind.signed, IntKind.bits]
  simp
  split <;> omega
theorem wrapU {n : Int} (h0 : 0 ≤ n) (h1 : n < 18446744073709551616) : IntKind.wrap .u64 n = n := by
  simp only [IntKind.wrap, IntKind.signed, IntKind.bits]
  simp
  omega
theorem fdiv64 {x : Int} (h0 : 0 ≤ x) (h1 : x < 18446744073709551616) : 0 ≤ x.fdiv (2 ^ (min (Int.toNat 1) (IntKind.bits .u64))) ∧ x.fdiv (2 ^ (min (Int.toNat 1) (IntKind.bits .u64))) < 9223372036854775808 := by
  rw [show (2 ^ (min (Int.toNat 1) (IntKind.bits .u64)) : Int) = 2 by decide, Int.fdiv_eq_ediv_of_nonneg _ (by omega)]
  omega

set_option maxRecDepth 100000 in
theorem turn_spec {B b : Nat} {H : Heap} (hB : B ≤ b) (hn : B ≤ H.n) (hb : Box b H) :
    CallB Tryd.prog B 79 [bp b] H (fun r H' => (∃ x, r = .int .u64 x ∧ 0 ≤ x ∧ x < 18446744073709551616) ∧ Box b H' ∧ KeepX b H H') := by
  refine CV.enter callees true rfl Tryd.func79 rfl ok79 (Nat.le_of_ble_eq_true rfl) hn ?_
  have hb' := hb
  obtain ⟨hbn, w, hw⟩ := hb
  have hw2 : ∀ r, (H.set b (.cells [.int .u64 r] 74 1)).get b = some (.cells [.int .u64 r] 74 1) := fun r => Heap.get_set_eq _ _ _
  repeat' first
    | refine CO.cons rfl ?_
    | refine CO.nil ?_
    | refine CV.seq ?_
    | refine CV.region callees ?_
    | refine CV.cond ?_
    | refine CV.block ?_
    | refine CV.skip ?_
    | refine CV.exit ?_
    | refine CV.ret ?_
    | refine CV.scope ?_
    | refine CV.draw callees rfl ?_
    | refine CH.cons rfl ?_
    | refine CH.nil ?_
    | refine CO.consG rfl ?_
    | refine CH.consG rfl ?_
    | refine CG.cons rfl ?_
    | refine CG.nil ?_
    | refine CG.consG rfl ?_
    | refine ⟨(rfl : plain _ = true), ?_⟩
    | refine ⟨(rfl : nilOk _ = some _), ?_⟩
    | refine ⟨_, ints_len (by assumption), ?_⟩
    | refine ⟨_, ints_addr (by assumption) (by omega) (by omega), ?_⟩
    | refine ⟨_, ints_load (by assumption) (by omega) (by omega), ?_⟩
    | refine ⟨(⟨by omega, by omega⟩ : inI64 _), ?_⟩
    | refine ⟨_, fun tm ha => step1_max rfl (ev_tmp ha rfl) (ev_tmp ha rfl), ?_⟩
    | refine ⟨_, fun tm ha => step1_min rfl (ev_tmp ha rfl) (ev_tmp ha rfl), ?_⟩
    | refine ⟨_, box_addr, ?_⟩
    | refine ⟨_, box_load hw, ?_⟩
    | refine ⟨_, box_load (hw2 _), ?_⟩
    | refine ⟨_, _, box_store hw, hB, ?_⟩
    | intro _ _
    | refine ⟨_, fun tm ha => step1_shr rfl (ev_tmp ha rfl) rfl (by decide), ?_⟩
    | refine ⟨_, fun tm ha => step1_bits (.inl rfl) rfl (ev_tmp ha rfl) (ev_tmp ha rfl) rfl rfl, ?_⟩
    | (refine ⟨fun _ => ?_, fun _ => ?_⟩ <;> first | (exfalso; omega) | skip)
    | fail
  refine ⟨rfl, ⟨_, rfl, (wrap64 _).1, (wrap64 _).2⟩, hb'.keepX, KeepX.set _ _⟩

set_option maxRecDepth 100000 in
theorem up_spec {B b : Nat} {H : Heap} {n : Int} (hB : B ≤ b) (hn : B ≤ H.n) (hb : Box b H) (hn1 : n < 9223372036854775808) :
    CallB Tryd.prog B 24 [bp b, .int .i64 n] H (fun r H' => (∃ x, r = .int .i64 x ∧ 0 ≤ x ∧ (x < n ∨ x = 0)) ∧ Box b H' ∧ KeepX b H H') := by
  refine CV.enter callees true rfl Tryd.func24 rfl ok24 (Nat.le_of_ble_eq_true rfl) hn ?_
  repeat' first
    | refine CO.cons rfl ?_
    | refine CO.nil ?_
    | refine CV.seq ?_
    | refine CV.region callees ?_
    | refine CV.cond ?_
    | refine CV.block ?_
    | refine CV.skip ?_
    | refine CV.exit ?_
    | refine CV.ret ?_
    | refine CV.scope ?_
    | refine CV.draw callees rfl ?_
    | refine CH.cons rfl ?_
    | refine CH.nil ?_
    | refine CO.consG rfl ?_
    | refine CH.consG rfl ?_
    | refine CG.cons rfl ?_
    | refine CG.nil ?_
    | refine CG.consG rfl ?_
    | refine ⟨(rfl : plain _ = true), ?_⟩
    | refine ⟨(rfl : nilOk _ = some _), ?_⟩
    | refine ⟨_, ints_len (by assumption), ?_⟩
    | refine ⟨_, ints_addr (by assumption) (by omega) (by omega), ?_⟩
    | refine ⟨_, ints_load (by assumption) (by omega) (by omega), ?_⟩
    | refine ⟨(⟨by omega, by omega⟩ : inI64 _), ?_⟩
    | refine ⟨_, fun tm ha => step1_max rfl (ev_tmp ha rfl) (ev_tmp ha rfl), ?_⟩
    | refine ⟨_, fun tm ha => step1_min rfl (ev_tmp ha rfl) (ev_tmp ha rfl), ?_⟩
    | refine ⟨fun _ => ?_, fun _ => ?_⟩
    | (refine ⟨fun _ => ?_, fun _ => ?_⟩ <;> first | (exfalso; omega) | skip)
    | fail
  · exact ⟨rfl, ⟨0, rfl, by omega, .inr rfl⟩, hb, KeepX.refl _ _⟩
  refine (turn_spec hB hn hb).mono ?_
  rintro r H' ⟨⟨x, rfl, h0, h1⟩, hb', hk⟩
  have hm : IntKind.wrap .u64 n = n := wrapU (by omega) (by omega)
  obtain ⟨d0, d1⟩ := fdiv64 h0 h1
  repeat' first
    | refine CO.cons rfl ?_
    | refine CO.nil ?_
    | refine CV.seq ?_
    | refine CV.region callees ?_
    | refine CV.cond ?_
    | refine CV.block ?_
    | refine CV.skip ?_
    | refine CV.exit ?_
    | refine CV.ret ?_
    | refine CV.scope ?_
    | refine CV.draw callees rfl ?_
    | refine CH.cons rfl ?_
    | refine CH.nil ?_
    | refine CO.consG rfl ?_
    | refine CH.consG rfl ?_
    | refine CG.cons rfl ?_
    | refine CG.nil ?_
    | refine CG.consG rfl ?_
    | refine ⟨(rfl : plain _ = true), ?_⟩
    | refine ⟨(rfl : nilOk _ = some _), ?_⟩
    | refine ⟨_, ints_len (by assumption), ?_⟩
    | refine ⟨_, ints_addr (by assumption) (by omega) (by omega), ?_⟩
    | refine ⟨_, ints_load (by assumption) (by omega) (by omega), ?_⟩
    | refine ⟨(⟨by omega, by omega⟩ : inI64 _), ?_⟩
    | refine ⟨_, fun tm ha => step1_max rfl (ev_tmp ha rfl) (ev_tmp ha rfl), ?_⟩
    | refine ⟨_, fun tm ha => step1_min rfl (ev_tmp ha rfl) (ev_tmp ha rfl), ?_⟩
    | refine ⟨_, fun tm ha => step1_shr rfl (ev_tmp ha rfl) rfl (by decide), ?_⟩
    | refine ⟨_, fun tm ha => step1_conv un3 un72 rfl (ev_tmp ha rfl), ?_⟩
    | refine ⟨_, fun tm ha => step1_rem rfl (ev_tmp ha rfl) (ev_tmp ha rfl) (by rw [hm]; omega), ?_⟩
    | refine ⟨_, fun tm ha => step1_conv un72 un3 rfl (ev_tmp ha rfl), ?_⟩
    | (refine ⟨fun _ => ?_, fun _ => ?_⟩ <;> first | (exfalso; omega) | skip)
    | fail
  rw [hm]
  generalize x.fdiv (2 ^ (min (Int.toNat 1) (IntKind.bits .u64))) = d at d0 d1
  have e1 := Int.tmod_nonneg (b := n) d0
  have e2 := Int.tmod_lt_of_pos d (b := n) (by omega)
  rw [wrapI (by omega) (by omega)]
  exact ⟨rfl, ⟨_, rfl, e1, .inl e2⟩, hb', hk⟩
set_option maxRecDepth 100000 in
theorem any_spec {B b : Nat} {H : Heap} {l h : Int} (hB : B ≤ b) (hn : B ≤ H.n) (hb : Box b H) (h0 : -1000000 ≤ l) (h1 : l ≤ h) (h2 : h < 1000000) :
    CallB Tryd.prog B 22 [bp b, .int .i64 l, .int .i64 h] H (fun r H' => (∃ x, r = .int .i64 x ∧ l ≤ x ∧ x ≤ h) ∧ Box b H' ∧ KeepX b H H') := by
  refine CV.enter callees false rfl Tryd.func22 rfl ok22 (Nat.le_of_ble_eq_true rfl) hn ?_
  repeat' first
    | refine CO.cons rfl ?_
    | refine CO.nil ?_
    | refine CV.seq ?_
    | refine CV.region callees ?_
    | refine CV.cond ?_
    | refine CV.block ?_
    | refine CV.skip ?_
    | refine CV.exit ?_
    | refine CV.ret ?_
    | refine CV.scope ?_
    | refine CV.draw callees rfl ?_
    | refine CH.cons rfl ?_
    | refine CH.nil ?_
    | refine CO.consG rfl ?_
    | refine CH.consG rfl ?_
    | refine CG.cons rfl ?_
    | refine CG.nil ?_
    | refine CG.consG rfl ?_
    | refine ⟨(rfl : plain _ = true), ?_⟩
    | refine ⟨(rfl : nilOk _ = some _), ?_⟩
    | refine ⟨_, ints_len (by assumption), ?_⟩
    | refine ⟨_, ints_addr (by assumption) (by omega) (by omega), ?_⟩
    | refine ⟨_, ints_load (by assumption) (by omega) (by omega), ?_⟩
    | refine ⟨(⟨by omega, by omega⟩ : inI64 _), ?_⟩
    | refine ⟨_, fun tm ha => step1_max rfl (ev_tmp ha rfl) (ev_tmp ha rfl), ?_⟩
    | refine ⟨_, fun tm ha => step1_min rfl (ev_tmp ha rfl) (ev_tmp ha rfl), ?_⟩
    | (refine ⟨fun _ => ?_, fun _ => ?_⟩ <;> first | (exfalso; omega) | skip)
    | fail
  refine (up_spec hB hn hb (by omega)).mono ?_
  rintro r H' ⟨⟨x, rfl, h3, h4⟩, hb', hk⟩
  repeat' first
    | refine CO.cons rfl ?_
    | refine CO.nil ?_
    | refine CV.seq ?_
    | refine CV.region callees ?_
    | refine CV.cond ?_
    | refine CV.block ?_
    | refine CV.skip ?_
    | refine CV.exit ?_
    | refine CV.ret ?_
    | refine CV.scope ?_
    | refine CV.draw callees rfl ?_
    | refine CH.cons rfl ?_
    | refine CH.nil ?_
    | refine CO.consG rfl ?_
    | refine CH.consG rfl ?_
    | refine CG.cons rfl ?_
    | refine CG.nil ?_
    | refine CG.consG rfl ?_
    | refine ⟨(rfl : plain _ = true), ?_⟩
    | refine ⟨(rfl : nilOk _ = some _), ?_⟩
    | refine ⟨_, ints_len (by assumption), ?_⟩
    | refine ⟨_, ints_addr (by assumption) (by omega) (by omega), ?_⟩
    | refine ⟨_, ints_load (by assumption) (by omega) (by omega), ?_⟩
    | refine ⟨(⟨by omega, by omega⟩ : inI64 _), ?_⟩
    | refine ⟨_, fun tm ha => step1_max rfl (ev_tmp ha rfl) (ev_tmp ha rfl), ?_⟩
    | refine ⟨_, fun tm ha => step1_min rfl (ev_tmp ha rfl) (ev_tmp ha rfl), ?_⟩
    | (refine ⟨fun _ => ?_, fun _ => ?_⟩ <;> first | (exfalso; omega) | skip)
    | fail
  exact ⟨rfl, ⟨_, rfl, by omega, by omega⟩, hb', hk⟩
set_option maxRecDepth 100000 in
theorem one_spec {B b : Nat} {H : Heap} {n : Int} (hB : B ≤ b) (hn : B ≤ H.n) (hb : Box b H) (hn1 : n < 9223372036854775808) :
    CallB Tryd.prog B 23 [bp b, .int .i64 n] H (fun r H' => (∃ x, r = .bool x) ∧ Box b H' ∧ KeepX b H H') := by
  refine CV.enter callees false rfl Tryd.func23 rfl ok23 (Nat.le_of_ble_eq_true rfl) hn ?_
  repeat' first
    | refine CO.cons rfl ?_
    | refine CO.nil ?_
    | refine CV.seq ?_
    | refine CV.region callees ?_
    | refine CV.cond ?_
    | refine CV.block ?_
    | refine CV.skip ?_
    | refine CV.exit ?_
    | refine CV.ret ?_
    | refine CV.scope ?_
    | refine CV.draw callees rfl ?_
    | refine CH.cons rfl ?_
    | refine CH.nil ?_
    | refine CO.consG rfl ?_
    | refine CH.consG rfl ?_
    | refine CG.cons rfl ?_
    | refine CG.nil ?_
    | refine CG.consG rfl ?_
    | refine ⟨(rfl : plain _ = true), ?_⟩
    | refine ⟨(rfl : nilOk _ = some _), ?_⟩
    | refine ⟨_, ints_len (by assumption), ?_⟩
    | refine ⟨_, ints_addr (by assumption) (by omega) (by omega), ?_⟩
    | refine ⟨_, ints_load (by assumption) (by omega) (by omega), ?_⟩
    | refine ⟨(⟨by omega, by omega⟩ : inI64 _), ?_⟩
    | refine ⟨_, fun tm ha => step1_max rfl (ev_tmp ha rfl) (ev_tmp ha rfl), ?_⟩
    | refine ⟨_, fun tm ha => step1_min rfl (ev_tmp ha rfl) (ev_tmp ha rfl), ?_⟩
    | (refine ⟨fun _ => ?_, fun _ => ?_⟩ <;> first | (exfalso; omega) | skip)
    | fail
  refine (up_spec hB hn hb hn1).mono ?_
  rintro r H' ⟨⟨x, rfl, h3, h4⟩, hb', hk⟩
  repeat' first
    | refine CO.cons rfl ?_
    | refine CO.nil ?_
    | refine CV.seq ?_
    | refine CV.region callees ?_
    | refine CV.cond ?_
    | refine CV.block ?_
    | refine CV.skip ?_
    | refine CV.exit ?_
    | refine CV.ret ?_
    | refine CV.scope ?_
    | refine CV.draw callees rfl ?_
    | refine CH.cons rfl ?_
    | refine CH.nil ?_
    | refine CO.consG rfl ?_
    | refine CH.consG rfl ?_
    | refine CG.cons rfl ?_
    | refine CG.nil ?_
    | refine CG.consG rfl ?_
    | refine ⟨(rfl : plain _ = true), ?_⟩
    | refine ⟨(rfl : nilOk _ = some _), ?_⟩
    | refine ⟨_, ints_len (by assumption), ?_⟩
    | refine ⟨_, ints_addr (by assumption) (by omega) (by omega), ?_⟩
    | refine ⟨_, ints_load (by assumption) (by omega) (by omega), ?_⟩
    | refine ⟨(⟨by omega, by omega⟩ : inI64 _), ?_⟩
    | refine ⟨_, fun tm ha => step1_max rfl (ev_tmp ha rfl) (ev_tmp ha rfl), ?_⟩
    | refine ⟨_, fun tm ha => step1_min rfl (ev_tmp ha rfl) (ev_tmp ha rfl), ?_⟩
    | refine ⟨fun _ => ?_, fun _ => ?_⟩
    | (refine ⟨fun _ => ?_, fun _ => ?_⟩ <;> first | (exfalso; omega) | skip)
    | fail
  · exact ⟨rfl, ⟨_, rfl⟩, hb', hk⟩
  · exact ⟨rfl, ⟨_, rfl⟩, hb', hk⟩
end Go.Proofs.YteocbhefhobehaaDoor

/- Partitions that are made of numbers. -/
namespace Go.Proofs.YteocbhefhobehaaDoor
open Go.AI

theorem alloc_box {H : Heap} {w : Int} : anew H (Value.cells (.agg #[.int .u64 w])).toList 74 1 = H.new (.cells [.int .u64 w] 74 1) := rfl
theorem build_box {w : Int} : abuild Tryd.prog 74 [(0, .int .u64 w)] = some (.agg #[.int .u64 w]) := by kernel_rfl
set_option maxRecDepth 100000 in
theorem boxOf_spec {B : Nat} {H : Heap} {v : Value} {xs : List Int} (hn : B ≤ H.n) (hv : Ints H v xs) (hl : xs.length ≤ 9223372036854775807) :
    CallB Tryd.prog B 20 [v] H (fun r H' => (∃ b, r = bp b ∧ H.n ≤ b ∧ Box b H') ∧ Keep H H') := by
  refine CV.enter callees false rfl Tryd.func20 rfl ok20 (Nat.le_of_ble_eq_true rfl) hn ?_
  repeat' first
    | refine CO.cons rfl ?_
    | refine CO.nil ?_
    | refine CV.seq ?_
    | refine CV.region callees ?_
    | refine CV.cond ?_
    | refine CV.block ?_
    | refine CV.skip ?_
    | refine CV.exit ?_
    | refine CV.ret ?_
    | refine CV.scope ?_
    | refine CV.draw callees rfl ?_
    | refine CH.cons rfl ?_
    | refine CH.nil ?_
    | refine CO.consG rfl ?_
    | refine CH.consG rfl ?_
    | refine CG.cons rfl ?_
    | refine CG.nil ?_
    | refine CG.consG rfl ?_
    | refine ⟨(rfl : plain _ = true), ?_⟩
    | refine ⟨(rfl : nilOk _ = some _), ?_⟩
    | refine ⟨_, ints_len (by assumption), ?_⟩
    | refine ⟨_, ints_addr (by assumption) (by omega) (by omega), ?_⟩
    | refine ⟨_, ints_load (by assumption) (by omega) (by omega), ?_⟩
    | refine ⟨(⟨by omega, by omega⟩ : inI64 _), ?_⟩
    | refine ⟨_, fun tm ha => step1_max rfl (ev_tmp ha rfl) (ev_tmp ha rfl), ?_⟩
    | refine ⟨_, fun tm ha => step1_min rfl (ev_tmp ha rfl) (ev_tmp ha rfl), ?_⟩
    | refine ⟨_, build_box, ?_⟩
    | refine ⟨(rfl : notTuple _ = true), ?_⟩
    | (refine ⟨fun _ => ?_, fun _ => ?_⟩ <;> first | (exfalso; omega) | skip)
    | fail
  refine CV.loopc ?_
  refine WCv.rounds callees false (α := Int) (fun a => [(0, v), (3, bp H.n), (4, .int .i64 a)]) (fun a Hz => 0 ≤ a ∧ a ≤ xs.length ∧ Box H.n Hz ∧ Keep H Hz) (fun a => xs.length - a.toNat) (0) (by repeat' first | exact trivial | refine ⟨rfl, ?_⟩) ?_ ?_
  · exact ⟨by omega, by omega, ⟨Nat.lt_succ_self _, _, Heap.get_new_eq _ _⟩, Keep.new _ _⟩
  rintro i Hx ⟨h0, h1, hb, hk⟩ hBx
  have hvx : Ints Hx v xs := hv.keep hk
  have hb' := hb
  obtain ⟨hbn, w, hw⟩ := hb
  repeat' first
    | refine CO.cons rfl ?_
    | refine CO.nil ?_
    | refine CV.seq ?_
    | refine CV.region callees ?_
    | refine CV.cond ?_
    | refine CV.block ?_
    | refine CV.skip ?_
    | refine CV.exit ?_
    | refine CV.ret ?_
    | refine CV.scope ?_
    | refine CV.draw callees rfl ?_
    | refine CH.cons rfl ?_
    | refine CH.nil ?_
    | refine CO.consG rfl ?_
    | refine CH.consG rfl ?_
    | refine CG.cons rfl ?_
    | refine CG.nil ?_
    | refine CG.consG rfl ?_
    | refine ⟨(rfl : plain _ = true), ?_⟩
    | refine ⟨(rfl : nilOk _ = some _), ?_⟩
    | refine ⟨_, ints_len (by assumption), ?_⟩
    | refine ⟨_, ints_addr (by assumption) (by omega) (by omega), ?_⟩
    | refine ⟨_, ints_load (by assumption) (by omega) (by omega), ?_⟩
    | refine ⟨(⟨by omega, by omega⟩ : inI64 _), ?_⟩
    | refine ⟨_, fun tm ha => step1_max rfl (ev_tmp ha rfl) (ev_tmp ha rfl), ?_⟩
    | refine ⟨_, fun tm ha => step1_min rfl (ev_tmp ha rfl) (ev_tmp ha rfl), ?_⟩
    | refine ⟨_, box_addr, ?_⟩
    | refine ⟨_, box_load hw, ?_⟩
    | refine ⟨_, _, box_store hw, hn, ?_⟩
    | intro _ _
    | refine ⟨_, fun tm ha => step1_conv un3 un72 rfl (ev_tmp ha rfl), ?_⟩
    | refine ⟨_, fun tm ha => step1_bits (.inl rfl) rfl (ev_tmp ha rfl) (ev_tmp ha rfl) rfl rfl, ?_⟩
    | (refine ⟨fun _ => ?_, fun _ => ?_⟩ <;> first | (exfalso; omega) | skip)
    | fail
  · refine (turn_spec hn (by exact hBx) hb'.keepX).mono ?_
    rintro r H' ⟨⟨x, rfl, _, _⟩, hb2, hk2⟩
    repeat' first
      | refine CO.cons rfl ?_
      | refine CO.nil ?_
      | refine CV.seq ?_
      | refine CV.region callees ?_
      | refine CV.cond ?_
      | refine CV.block ?_
      | refine CV.skip ?_
      | refine CV.exit ?_
      | refine CV.ret ?_
      | refine CV.scope ?_
      | refine CV.draw callees rfl ?_
      | refine CH.cons rfl ?_
      | refine CH.nil ?_
      | refine CO.consG rfl ?_
      | refine CH.consG rfl ?_
      | refine CG.cons rfl ?_
      | refine CG.nil ?_
      | refine CG.consG rfl ?_
      | refine ⟨(rfl : plain _ = true), ?_⟩
      | refine ⟨(rfl : nilOk _ = some _), ?_⟩
      | refine ⟨_, ints_len (by assumption), ?_⟩
      | refine ⟨_, ints_addr (by assumption) (by omega) (by omega), ?_⟩
      | refine ⟨_, ints_load (by assumption) (by omega) (by omega), ?_⟩
      | refine ⟨(⟨by omega, by omega⟩ : inI64 _), ?_⟩
      | refine ⟨_, fun tm ha => step1_max rfl (ev_tmp ha rfl) (ev_tmp ha rfl), ?_⟩
      | refine ⟨_, fun tm ha => step1_min rfl (ev_tmp ha rfl) (ev_tmp ha rfl), ?_⟩
      | (refine ⟨fun _ => ?_, fun _ => ?_⟩ <;> first | (exfalso; omega) | skip)
      | fail
    refine ⟨(i + 1), (by repeat' first | exact trivial | refine ⟨rfl, ?_⟩), (by (try dsimp only); omega), ?_⟩
    exact ⟨by omega, by omega, hb2, ((KeepX.set _ _).trans hk2).keep hk (Nat.le_refl _)⟩
  · repeat' first
      | refine CO.cons rfl ?_
      | refine CO.nil ?_
      | refine CV.seq ?_
      | refine CV.region callees ?_
      | refine CV.cond ?_
      | refine CV.block ?_
      | refine CV.skip ?_
      | refine CV.exit ?_
      | refine CV.ret ?_
      | refine CV.scope ?_
      | refine CV.draw callees rfl ?_
      | refine CH.cons rfl ?_
      | refine CH.nil ?_
      | refine CO.consG rfl ?_
      | refine CH.consG rfl ?_
      | refine CG.cons rfl ?_
      | refine CG.nil ?_
      | refine CG.consG rfl ?_
      | refine ⟨(rfl : plain _ = true), ?_⟩
      | refine ⟨(rfl : nilOk _ = some _), ?_⟩
      | refine ⟨_, ints_len (by assumption), ?_⟩
      | refine ⟨_, ints_addr (by assumption) (by omega) (by omega), ?_⟩
      | refine ⟨_, ints_load (by assumption) (by omega) (by omega), ?_⟩
      | refine ⟨(⟨by omega, by omega⟩ : inI64 _), ?_⟩
      | refine ⟨_, fun tm ha => step1_max rfl (ev_tmp ha rfl) (ev_tmp ha rfl), ?_⟩
      | refine ⟨_, fun tm ha => step1_min rfl (ev_tmp ha rfl) (ev_tmp ha rfl), ?_⟩
      | (refine ⟨fun _ => ?_, fun _ => ?_⟩ <;> first | (exfalso; omega) | skip)
      | fail
    exact ⟨rfl, ⟨_, rfl, Nat.le_refl _, hb'⟩, hk⟩

/-- The first place of a label among those from a place on. -/
theorem idx_from {met : List Int} {x : Int} {k : Nat} (h : ∀ j, j < k → met[j]! ≠ x) (hk : k ≤ met.length) (he : k = met.length ∨ met[k]! = x) : (if x ∈ met then met.idxOf x else met.length) = k := by
  by_cases hx : x ∈ met
  · rw [if_pos hx]
    have h1 := List.idxOf_lt_length_of_mem hx
    have h2 := List.getElem_idxOf h1
    rcases Nat.lt_trichotomy (met.idxOf x) k with h3 | h3 | h3
    · exact absurd (by rw [getElem!_pos met _ h1]; exact h2) (h _ h3)
    · exact h3
    · rcases he with rfl | he
      · omega
      · have := List.not_of_lt_findIdx (p := (· == x)) (xs := met) (i := k) h3
        rw [getElem!_pos met k (by omega)] at he
        simp [he] at this
  · rw [if_neg hx]
    rcases he with rfl | he
    · rfl
    · by_cases hl : k < met.length
      · rw [getElem!_pos met k hl] at he
        exact absurd (he ▸ List.getElem_mem hl) hx
      · omega
theorem num_step {x : Int} {r met : List Int} {k : Nat} (h : (if x ∈ met then met.idxOf x else met.length) = k) : num (x :: r) met = (k : Int) :: num r (if k = met.length then met ++ [x] else met) := by
  rw [num]
  by_cases hx : x ∈ met
  · rw [if_pos hx] at h ⊢
    have := List.idxOf_lt_length_of_mem hx
    rw [if_neg (by omega), h]
  · rw [if_neg hx] at h ⊢
    rw [if_pos h.symm, h]

set_option maxRecDepth 100000 in
theorem refof_spec {B : Nat} {H : Heap} {v : Value} {xs : List Int} (hn : B ≤ H.n) (hv : Ints H v xs) (hl : xs.length ≤ 1000) :
    CallB Tryd.prog B 81 [v] H (fun r H' => Own 3 H' r ((num xs []).map VI) H.n ∧ Keep H H') := by
  refine CV.enter callees false rfl Tryd.func81 rfl ok81 (Nat.le_of_ble_eq_true rfl) hn ?_
  repeat' first
    | refine CO.cons rfl ?_
    | refine CO.nil ?_
    | refine CV.seq ?_
    | refine CV.region callees ?_
    | refine CV.cond ?_
    | refine CV.block ?_
    | refine CV.skip ?_
    | refine CV.exit ?_
    | refine CV.ret ?_
    | refine CV.scope ?_
    | refine CV.draw callees rfl ?_
    | refine CH.cons rfl ?_
    | refine CH.nil ?_
    | refine CO.consG rfl ?_
    | refine CH.consG rfl ?_
    | refine CG.cons rfl ?_
    | refine CG.nil ?_
    | refine CG.consG rfl ?_
    | refine ⟨(rfl : plain _ = true), ?_⟩
    | refine ⟨(rfl : nilOk _ = some _), ?_⟩
    | refine ⟨_, ints_len (by assumption), ?_⟩
    | refine ⟨_, ints_addr (by assumption) (by omega) (by omega), ?_⟩
    | refine ⟨_, ints_load (by assumption) (by omega) (by omega), ?_⟩
    | refine ⟨(⟨by omega, by omega⟩ : inI64 _), ?_⟩
    | refine ⟨_, fun tm ha => step1_max rfl (ev_tmp ha rfl) (ev_tmp ha rfl), ?_⟩
    | refine ⟨_, fun tm ha => step1_min rfl (ev_tmp ha rfl) (ev_tmp ha rfl), ?_⟩
    | (refine ⟨fun _ => ?_, fun _ => ?_⟩ <;> first | (exfalso; omega) | skip)
    | fail
  refine CV.loopc ?_
  refine WCv.rounds callees false (α := Value × Value × Int × List Int × List Int) (fun (o, u, i, met, out) => [(0, v), (3, o), (4, u), (5, .int .i64 i)]) (fun (o, u, i, met, out) Hz => 0 ≤ i ∧ i ≤ xs.length ∧ out.length = i.toNat ∧ met.length ≤ i.toNat ∧ Own 3 Hz o (out.map VI) H.n ∧ Own 3 Hz u (met.map VI) H.n ∧ Apart o u ∧ Keep H Hz ∧ num xs [] = out ++ num (xs.drop i.toNat) met) (fun (o, u, i, met, out) => xs.length - i.toNat) (.slice none 0 0, .slice none 0 0, 0, [], []) (by repeat' first | exact trivial | refine ⟨rfl, ?_⟩) ?_ ?_
  · exact ⟨by simp, by simp, rfl, by simp, .inl ⟨rfl, rfl⟩, .inl ⟨rfl, rfl⟩, apart_nil, Keep.refl _, by simp⟩
  rintro ⟨o, u, i, met, out⟩ Hx ⟨hi0, hi1, hlen, hml, ho, hu, hap, hk, hnum⟩ hBx
  have hvx : Ints Hx v xs := hv.keep hk
  have hux : Ints Hx u met := hu.row
  repeat' first
    | refine CO.cons rfl ?_
    | refine CO.nil ?_
    | refine CV.seq ?_
    | refine CV.region callees ?_
    | refine CV.cond ?_
    | refine CV.block ?_
    | refine CV.skip ?_
    | refine CV.exit ?_
    | refine CV.ret ?_
    | refine CV.scope ?_
    | refine CV.draw callees rfl ?_
    | refine CH.cons rfl ?_
    | refine CH.nil ?_
    | refine CO.consG rfl ?_
    | refine CH.consG rfl ?_
    | refine CG.cons rfl ?_
    | refine CG.nil ?_
    | refine CG.consG rfl ?_
    | refine ⟨(rfl : plain _ = true), ?_⟩
    | refine ⟨(rfl : nilOk _ = some _), ?_⟩
    | refine ⟨_, ints_len (by assumption), ?_⟩
    | refine ⟨_, ints_addr (by assumption) (by omega) (by omega), ?_⟩
    | refine ⟨_, ints_load (by assumption) (by omega) (by omega), ?_⟩
    | refine ⟨(⟨by omega, by omega⟩ : inI64 _), ?_⟩
    | refine ⟨_, fun tm ha => step1_max rfl (ev_tmp ha rfl) (ev_tmp ha rfl), ?_⟩
    | refine ⟨_, fun tm ha => step1_min rfl (ev_tmp ha rfl) (ev_tmp ha rfl), ?_⟩
    | (refine ⟨fun _ => ?_, fun _ => ?_⟩ <;> first | (exfalso; omega) | skip)
    | fail
  · refine CV.loopc ?_
    refine WCv.rounds callees false (α := Int) (fun a => [(0, v), (3, o), (4, u), (5, .int .i64 i), (6, .int .i64 a)]) (fun a Hz => Hz = Hx ∧ 0 ≤ a ∧ a ≤ met.length ∧ ∀ j : Nat, (j : Int) < a → met[j]! ≠ xs[i.toNat]!) (fun a => met.length - a.toNat) (0) (by repeat' first | exact trivial | refine ⟨rfl, ?_⟩) ?_ ?_
    · exact ⟨rfl, by omega, by omega, fun j h => by omega⟩
    rintro k Hy ⟨rfl, hk0, hk1, hg⟩ _
    repeat' first
      | refine CO.cons rfl ?_
      | refine CO.nil ?_
      | refine CV.seq ?_
      | refine CV.region callees ?_
      | refine CV.cond ?_
      | refine CV.block ?_
      | refine CV.skip ?_
      | refine CV.exit ?_
      | refine CV.ret ?_
      | refine CV.scope ?_
      | refine CV.draw callees rfl ?_
      | refine CH.cons rfl ?_
      | refine CH.nil ?_
      | refine CO.consG rfl ?_
      | refine CH.consG rfl ?_
      | refine CG.cons rfl ?_
      | refine CG.nil ?_
      | refine CG.consG rfl ?_
      | refine ⟨(rfl : plain _ = true), ?_⟩
      | refine ⟨(rfl : nilOk _ = some _), ?_⟩
      | refine ⟨_, ints_len (by assumption), ?_⟩
      | refine ⟨_, ints_addr (by assumption) (by omega) (by omega), ?_⟩
      | refine ⟨_, ints_load (by assumption) (by omega) (by omega), ?_⟩
      | refine ⟨(⟨by omega, by omega⟩ : inI64 _), ?_⟩
      | refine ⟨_, fun tm ha => step1_max rfl (ev_tmp ha rfl) (ev_tmp ha rfl), ?_⟩
      | refine ⟨_, fun tm ha => step1_min rfl (ev_tmp ha rfl) (ev_tmp ha rfl), ?_⟩
      | (refine ⟨fun _ => ?_, fun _ => ?_⟩ <;> first | (exfalso; omega) | skip)
      | fail
    · refine ⟨(k + 1), (by repeat' first | exact trivial | refine ⟨rfl, ?_⟩), (by (try dsimp only); omega), ?_⟩
      refine ⟨rfl, by omega, by omega, fun j hj => ?_⟩
      by_cases h : (j : Int) < k
      · exact hg j h
      · rwa [show j = k.toNat by omega]
    · have hidx := idx_from (met := met) (x := xs[i.toNat]!) (k := k.toNat) (fun j hj => hg j (by omega)) (by omega) (.inr (Classical.not_not.1 (by assumption)))
      rw [drop_cons (xs := xs) (n := i.toNat) (by omega), num_step hidx, if_neg (by omega)] at hnum
      repeat' first
        | refine CO.cons rfl ?_
        | refine CO.nil ?_
        | refine CV.seq ?_
        | refine CV.region callees ?_
        | refine CV.cond ?_
        | refine CV.block ?_
        | refine CV.skip ?_
        | refine CV.exit ?_
        | refine CV.ret ?_
        | refine CV.scope ?_
        | refine CV.draw callees rfl ?_
        | refine CH.cons rfl ?_
        | refine CH.nil ?_
        | refine CO.consG rfl ?_
        | refine CH.consG rfl ?_
        | refine CG.cons rfl ?_
        | refine CG.nil ?_
        | refine CG.consG rfl ?_
        | refine ⟨(rfl : plain _ = true), ?_⟩
        | refine ⟨(rfl : nilOk _ = some _), ?_⟩
        | refine ⟨_, ints_len (by assumption), ?_⟩
        | refine ⟨_, ints_addr (by assumption) (by omega) (by omega), ?_⟩
        | refine ⟨_, ints_load (by assumption) (by omega) (by omega), ?_⟩
        | refine ⟨(⟨by omega, by omega⟩ : inI64 _), ?_⟩
        | refine ⟨_, fun tm ha => step1_max rfl (ev_tmp ha rfl) (ev_tmp ha rfl), ?_⟩
        | refine ⟨_, fun tm ha => step1_min rfl (ev_tmp ha rfl) (ev_tmp ha rfl), ?_⟩
        | refine ⟨_, _, build_one un22 one3 rfl, ?_⟩
        | (refine ⟨fun _ => ?_, fun _ => ?_⟩ <;> first | (exfalso; omega) | skip)
        | fail
      refine append_ask un22 one3 (by omega) ho hk.1 hn (by simp; omega) ?_
      intro o2 H2 ho2 kb2 hf2
      repeat' first
        | refine CO.cons rfl ?_
        | refine CO.nil ?_
        | refine CV.seq ?_
        | refine CV.region callees ?_
        | refine CV.cond ?_
        | refine CV.block ?_
        | refine CV.skip ?_
        | refine CV.exit ?_
        | refine CV.ret ?_
        | refine CV.scope ?_
        | refine CV.draw callees rfl ?_
        | refine CH.cons rfl ?_
        | refine CH.nil ?_
        | refine CO.consG rfl ?_
        | refine CH.consG rfl ?_
        | refine CG.cons rfl ?_
        | refine CG.nil ?_
        | refine CG.consG rfl ?_
        | refine ⟨(rfl : plain _ = true), ?_⟩
        | refine ⟨(rfl : nilOk _ = some _), ?_⟩
        | refine ⟨_, ints_len (by assumption), ?_⟩
        | refine ⟨_, ints_addr (by assumption) (by omega) (by omega), ?_⟩
        | refine ⟨_, ints_load (by assumption) (by omega) (by omega), ?_⟩
        | refine ⟨(⟨by omega, by omega⟩ : inI64 _), ?_⟩
        | refine ⟨_, fun tm ha => step1_max rfl (ev_tmp ha rfl) (ev_tmp ha rfl), ?_⟩
        | refine ⟨_, fun tm ha => step1_min rfl (ev_tmp ha rfl) (ev_tmp ha rfl), ?_⟩
        | (refine ⟨fun _ => ?_, fun _ => ?_⟩ <;> first | (exfalso; omega) | skip)
        | fail
      refine ⟨(o2, u, i + 1, met, out ++ [k]), (by repeat' first | exact trivial | refine ⟨rfl, ?_⟩), (by (try dsimp only); omega), ?_⟩
      have e : (i + 1).toNat = i.toNat + 1 := by omega
      refine ⟨by omega, by omega, by simp; omega, by omega, by simpa using ho2, hu.keepBut kb2 hap.symm, (hu.apartNew hf2).symm, kb2.keep hk (fun c hc => (ho.lt hc).1), ?_⟩
      rw [hnum, e, List.append_assoc, show ((k.toNat : Nat) : Int) = k by omega]; rfl
    · have hidx := idx_from (met := met) (x := xs[i.toNat]!) (k := k.toNat) (fun j hj => hg j (by omega)) (by omega) (.inl (by omega))
      rw [drop_cons (xs := xs) (n := i.toNat) (by omega), num_step hidx, if_pos (by omega)] at hnum
      repeat' first
        | refine CO.cons rfl ?_
        | refine CO.nil ?_
        | refine CV.seq ?_
        | refine CV.region callees ?_
        | refine CV.cond ?_
        | refine CV.block ?_
        | refine CV.skip ?_
        | refine CV.exit ?_
        | refine CV.ret ?_
        | refine CV.scope ?_
        | refine CV.draw callees rfl ?_
        | refine CH.cons rfl ?_
        | refine CH.nil ?_
        | refine CO.consG rfl ?_
        | refine CH.consG rfl ?_
        | refine CG.cons rfl ?_
        | refine CG.nil ?_
        | refine CG.consG rfl ?_
        | refine ⟨(rfl : plain _ = true), ?_⟩
        | refine ⟨(rfl : nilOk _ = some _), ?_⟩
        | refine ⟨_, ints_len (by assumption), ?_⟩
        | refine ⟨_, ints_addr (by assumption) (by omega) (by omega), ?_⟩
        | refine ⟨_, ints_load (by assumption) (by omega) (by omega), ?_⟩
        | refine ⟨(⟨by omega, by omega⟩ : inI64 _), ?_⟩
        | refine ⟨_, fun tm ha => step1_max rfl (ev_tmp ha rfl) (ev_tmp ha rfl), ?_⟩
        | refine ⟨_, fun tm ha => step1_min rfl (ev_tmp ha rfl) (ev_tmp ha rfl), ?_⟩
        | refine ⟨_, _, build_one un22 one3 rfl, ?_⟩
        | (refine ⟨fun _ => ?_, fun _ => ?_⟩ <;> first | (exfalso; omega) | skip)
        | fail
      refine append_ask un22 one3 (by omega) hu hk.1 hn (by simp; omega) ?_
      intro u1 H1 hu1 kb1 hf1
      have hk1' := kb1.keep hk (fun c hc => (hu.lt hc).1)
      have ho1 := ho.keepBut kb1 hap
      repeat' first
        | refine CO.cons rfl ?_
        | refine CO.nil ?_
        | refine CV.seq ?_
        | refine CV.region callees ?_
        | refine CV.cond ?_
        | refine CV.block ?_
        | refine CV.skip ?_
        | refine CV.exit ?_
        | refine CV.ret ?_
        | refine CV.scope ?_
        | refine CV.draw callees rfl ?_
        | refine CH.cons rfl ?_
        | refine CH.nil ?_
        | refine CO.consG rfl ?_
        | refine CH.consG rfl ?_
        | refine CG.cons rfl ?_
        | refine CG.nil ?_
        | refine CG.consG rfl ?_
        | refine ⟨(rfl : plain _ = true), ?_⟩
        | refine ⟨(rfl : nilOk _ = some _), ?_⟩
        | refine ⟨_, ints_len (by assumption), ?_⟩
        | refine ⟨_, ints_addr (by assumption) (by omega) (by omega), ?_⟩
        | refine ⟨_, ints_load (by assumption) (by omega) (by omega), ?_⟩
        | refine ⟨(⟨by omega, by omega⟩ : inI64 _), ?_⟩
        | refine ⟨_, fun tm ha => step1_max rfl (ev_tmp ha rfl) (ev_tmp ha rfl), ?_⟩
        | refine ⟨_, fun tm ha => step1_min rfl (ev_tmp ha rfl) (ev_tmp ha rfl), ?_⟩
        | refine ⟨_, _, build_one un22 one3 rfl, ?_⟩
        | (refine ⟨fun _ => ?_, fun _ => ?_⟩ <;> first | (exfalso; omega) | skip)
        | fail
      refine append_ask un22 one3 (by omega) ho1 hk1'.1 hn (by simp; omega) ?_
      intro o2 H2 ho2 kb2 hf2
      repeat' first
        | refine CO.cons rfl ?_
        | refine CO.nil ?_
        | refine CV.seq ?_
        | refine CV.region callees ?_
        | refine CV.cond ?_
        | refine CV.block ?_
        | refine CV.skip ?_
        | refine CV.exit ?_
        | refine CV.ret ?_
        | refine CV.scope ?_
        | refine CV.draw callees rfl ?_
        | refine CH.cons rfl ?_
        | refine CH.nil ?_
        | refine CO.consG rfl ?_
        | refine CH.consG rfl ?_
        | refine CG.cons rfl ?_
        | refine CG.nil ?_
        | refine CG.consG rfl ?_
        | refine ⟨(rfl : plain _ = true), ?_⟩
        | refine ⟨(rfl : nilOk _ = some _), ?_⟩
        | refine ⟨_, ints_len (by assumption), ?_⟩
        | refine ⟨_, ints_addr (by assumption) (by omega) (by omega), ?_⟩
        | refine ⟨_, ints_load (by assumption) (by omega) (by omega), ?_⟩
        | refine ⟨(⟨by omega, by omega⟩ : inI64 _), ?_⟩
        | refine ⟨_, fun tm ha => step1_max rfl (ev_tmp ha rfl) (ev_tmp ha rfl), ?_⟩
        | refine ⟨_, fun tm ha => step1_min rfl (ev_tmp ha rfl) (ev_tmp ha rfl), ?_⟩
        | (refine ⟨fun _ => ?_, fun _ => ?_⟩ <;> first | (exfalso; omega) | skip)
        | fail
      refine ⟨(o2, u1, i + 1, met ++ [xs[i.toNat]!], out ++ [k]), (by repeat' first | exact trivial | refine ⟨rfl, ?_⟩), (by (try dsimp only); omega), ?_⟩
      have e : (i + 1).toNat = i.toNat + 1 := by omega
      refine ⟨by omega, by omega, by simp; omega, by simp; omega, by simpa using ho2, ?_, (hu1.apartNew hf2).symm, kb2.keep hk1' (fun c hc => (ho1.lt hc).1), ?_⟩
      · have := hu1.keepBut kb2 (ho.apartNew hf1).symm
        simpa using this
      · rw [hnum, e, List.append_assoc, show ((k.toNat : Nat) : Int) = k by omega]; rfl
  · have : xs.drop i.toNat = [] := by simp at hi1 ⊢; omega
    rw [this, num, List.append_nil] at hnum
    rw [hnum]
    exact ⟨by simp only [List.all_cons, List.all_nil, ho.notTuple]; rfl, ho, hk⟩
end Go.Proofs.YteocbhefhobehaaDoor

/- Partitions that are made of numbers; joins. -/
namespace Go.Proofs.YteocbhefhobehaaDoor
open Go.AI
theorem Box.keepBut {b : Nat} {x : Value} {H H' : Heap} (h : Box b H) (k : KeepBut x H H') (hx : blkOf x ≠ some b) : Box b H' :=
  ⟨Nat.lt_of_lt_of_le h.1 k.le, by obtain ⟨w, hw⟩ := h.2; exact ⟨w, by rw [k.get b h.1 hx]; exact hw⟩⟩
theorem own_apartBox {b : Nat} {e : TypeId} {H H0 : Heap} {v : Value} {vs : List Value} {B : Nat} (h : Own e H v vs B) (hb : b < B) : blkOf v ≠ some b := fun hc => by have := (h.lt hc).1; omega
theorem own_box {e : TypeId} {H H' : Heap} {b : Nat} {v : Value} {vs : List Value} {B : Nat} (h : Own e H v vs B) (k : KeepX b H H') (hb : Box b H) : Own e H' v vs B := by
  obtain ⟨w, hw⟩ := hb.2; exact h.keepX k hw
theorem row_box {H H' : Heap} {b : Nat} {v : Value} {vs : List Value} (h : Row H v vs) (k : KeepX b H H') (hb : Box b H) : Row H' v vs := by
  obtain ⟨w, hw⟩ := hb.2; exact h.keepX k hw
theorem push_ask {H : Heap} {K : Value → Heap → Prop} {B B0 : Nat} {x : Value} {y : Int} {l : List Int} (hx : Own 3 H x (l.map VI) B0) (hB0 : B0 ≤ H.n) (hB : B ≤ B0) (hn : l.length < 1000000)
    (hk : ∀ r H', Own 3 H' r ((l ++ [y]).map VI) B0 → KeepBut x H H' → (∀ c, blkOf r = some c → H.n ≤ c) → K r H') :
    ∃ v H' b, aappend Tryd.prog (H.new (.cells [.int .i64 y] 3 2)) #[22, 22] x (.slice (some ⟨H.n, 0, none⟩) 1 0) = some (v, H', b) ∧ B ≤ b ∧ K v H' :=
  append_ask un22 one3 (by omega) hx hB0 hB (by simpa using hn) fun r H' h => hk r H' (by simpa using h)
theorem put_ask {H : Heap} {K : Heap → Prop} {B B0 : Nat} {x : Value} {y : Int} {l : List Int} {i : Nat} (hx : Own 3 H x (l.map VI) B0) (hB : B ≤ B0) (hi : i < l.length)
    (hk : ∀ H', Own 3 H' x ((l.set i y).map VI) B0 → KeepBut x H H' → K H') :
    ∃ H' b, astore Tryd.prog 3 H (.int .i64 y) (elemAt x i) = some (H', b) ∧ B ≤ b ∧ K H' :=
  store_ask sz3 hx hB (by simpa using hi) rfl fun H' h => hk H' (by rw [List.map_set]; exact h)

set_option maxRecDepth 100000 in
theorem refOf_spec {B : Nat} {v : Value} {H : Heap} {xs : List Int} (hB : B ≤ H.n) (hv : Ints H v xs) :
    CallB Tryd.prog B 27 [v] H (fun r H' => OfR H xs r H' ∧ Keep H H') := by
  refine CV.enter callees false rfl Tryd.func27 rfl ok27 (Nat.le_of_ble_eq_true rfl) hB ?_
  repeat' first
    | refine CO.cons rfl ?_
    | refine CO.nil ?_
    | refine CV.seq ?_
    | refine CV.region callees ?_
    | refine CV.cond ?_
    | refine CV.block ?_
    | refine CV.skip ?_
    | refine CV.exit ?_
    | refine CV.ret ?_
    | refine CV.scope ?_
    | refine CV.draw callees rfl ?_
    | refine CH.cons rfl ?_
    | refine CH.nil ?_
    | refine CO.consG rfl ?_
    | refine CH.consG rfl ?_
    | refine CG.cons rfl ?_
    | refine CG.nil ?_
    | refine CG.consG rfl ?_
    | refine ⟨(rfl : plain _ = true), ?_⟩
    | refine ⟨(rfl : nilOk _ = some _), ?_⟩
    | refine ⟨_, ints_len (by assumption), ?_⟩
    | refine ⟨_, ints_addr (by assumption) (by omega) (by omega), ?_⟩
    | refine ⟨_, ints_load (by assumption) (by omega) (by omega), ?_⟩
    | refine ⟨(⟨by omega, by omega⟩ : inI64 _), ?_⟩
    | refine ⟨_, fun tm ha => step1_max rfl (ev_tmp ha rfl) (ev_tmp ha rfl), ?_⟩
    | refine ⟨_, fun tm ha => step1_min rfl (ev_tmp ha rfl) (ev_tmp ha rfl), ?_⟩
    | (refine ⟨fun _ => ?_, fun _ => ?_⟩ <;> first | (exfalso; omega) | skip)
    | fail
  · refine ⟨rfl, ?_, Keep.refl _⟩
    rw [OfR, if_pos (by omega)]
  · refine ⟨rfl, ?_, Keep.refl _⟩
    rw [OfR, if_neg (by omega), if_pos (by omega)]
  refine (refof_spec hB hv (by omega)).mono ?_
  rintro r H' ⟨h3, h4⟩
  repeat' first
    | refine CO.cons rfl ?_
    | refine CO.nil ?_
    | refine CV.seq ?_
    | refine CV.region callees ?_
    | refine CV.cond ?_
    | refine CV.block ?_
    | refine CV.skip ?_
    | refine CV.exit ?_
    | refine CV.ret ?_
    | refine CV.scope ?_
    | refine CV.draw callees rfl ?_
    | refine CH.cons rfl ?_
    | refine CH.nil ?_
    | refine CO.consG rfl ?_
    | refine CH.consG rfl ?_
    | refine CG.cons rfl ?_
    | refine CG.nil ?_
    | refine CG.consG rfl ?_
    | refine ⟨(rfl : plain _ = true), ?_⟩
    | refine ⟨(rfl : nilOk _ = some _), ?_⟩
    | refine ⟨_, ints_len (by assumption), ?_⟩
    | refine ⟨_, ints_addr (by assumption) (by omega) (by omega), ?_⟩
    | refine ⟨_, ints_load (by assumption) (by omega) (by omega), ?_⟩
    | refine ⟨(⟨by omega, by omega⟩ : inI64 _), ?_⟩
    | refine ⟨_, fun tm ha => step1_max rfl (ev_tmp ha rfl) (ev_tmp ha rfl), ?_⟩
    | refine ⟨_, fun tm ha => step1_min rfl (ev_tmp ha rfl) (ev_tmp ha rfl), ?_⟩
    | (refine ⟨fun _ => ?_, fun _ => ?_⟩ <;> first | (exfalso; omega) | skip)
    | fail
  refine ⟨by simp only [List.all_cons, List.all_nil, h3.notTuple]; rfl, ?_, h4⟩
  rw [OfR, if_neg (by omega), if_neg (by omega)]
  exact ⟨r, rfl, h3⟩

set_option maxRecDepth 100000 in
theorem partitionOf_spec {B b : Nat} {H : Heap} {n : Int} (hB : B ≤ b) (hn : B ≤ H.n) (hb : Box b H) (h1 : 1 ≤ n) (h9 : n ≤ 9) :
    CallB Tryd.prog B 21 [bp b, .int .i64 n] H (fun r H' => (∃ xs : List Int, check xs = 0 ∧ xs.length = n ∧ Own 3 H' r (xs.map VI) H.n) ∧ Box b H' ∧ KeepX b H H') := by
  refine CV.enter callees false rfl Tryd.func21 rfl ok21 (Nat.le_of_ble_eq_true rfl) hn ?_
  repeat' first
    | refine CO.cons rfl ?_
    | refine CO.nil ?_
    | refine CV.seq ?_
    | refine CV.region callees ?_
    | refine CV.cond ?_
    | refine CV.block ?_
    | refine CV.skip ?_
    | refine CV.exit ?_
    | refine CV.ret ?_
    | refine CV.scope ?_
    | refine CV.draw callees rfl ?_
    | refine CH.cons rfl ?_
    | refine CH.nil ?_
    | refine CO.consG rfl ?_
    | refine CH.consG rfl ?_
    | refine CG.cons rfl ?_
    | refine CG.nil ?_
    | refine CG.consG rfl ?_
    | refine ⟨(rfl : plain _ = true), ?_⟩
    | refine ⟨(rfl : nilOk _ = some _), ?_⟩
    | refine ⟨_, ints_len (by assumption), ?_⟩
    | refine ⟨_, ints_addr (by assumption) (by omega) (by omega), ?_⟩
    | refine ⟨_, ints_load (by assumption) (by omega) (by omega), ?_⟩
    | refine ⟨(⟨by omega, by omega⟩ : inI64 _), ?_⟩
    | refine ⟨_, fun tm ha => step1_max rfl (ev_tmp ha rfl) (ev_tmp ha rfl), ?_⟩
    | refine ⟨_, fun tm ha => step1_min rfl (ev_tmp ha rfl) (ev_tmp ha rfl), ?_⟩
    | (refine ⟨fun _ => ?_, fun _ => ?_⟩ <;> first | (exfalso; omega) | skip)
    | fail
  refine (any_spec hB hn hb (by omega) h1 (by omega)).mono ?_
  rintro r H1 ⟨⟨m, rfl, hm0, hm1⟩, hb1, hk1⟩
  repeat' first
    | refine CO.cons rfl ?_
    | refine CO.nil ?_
    | refine CV.seq ?_
    | refine CV.region callees ?_
    | refine CV.cond ?_
    | refine CV.block ?_
    | refine CV.skip ?_
    | refine CV.exit ?_
    | refine CV.ret ?_
    | refine CV.scope ?_
    | refine CV.draw callees rfl ?_
    | refine CH.cons rfl ?_
    | refine CH.nil ?_
    | refine CO.consG rfl ?_
    | refine CH.consG rfl ?_
    | refine CG.cons rfl ?_
    | refine CG.nil ?_
    | refine CG.consG rfl ?_
    | refine ⟨(rfl : plain _ = true), ?_⟩
    | refine ⟨(rfl : nilOk _ = some _), ?_⟩
    | refine ⟨_, ints_len (by assumption), ?_⟩
    | refine ⟨_, ints_addr (by assumption) (by omega) (by omega), ?_⟩
    | refine ⟨_, ints_load (by assumption) (by omega) (by omega), ?_⟩
    | refine ⟨(⟨by omega, by omega⟩ : inI64 _), ?_⟩
    | refine ⟨_, fun tm ha => step1_max rfl (ev_tmp ha rfl) (ev_tmp ha rfl), ?_⟩
    | refine ⟨_, fun tm ha => step1_min rfl (ev_tmp ha rfl) (ev_tmp ha rfl), ?_⟩
    | (refine ⟨fun _ => ?_, fun _ => ?_⟩ <;> first | (exfalso; omega) | skip)
    | fail
  refine CV.loopc ?_
  refine WCv.rounds callees false (α := Value × Int × List Int) (fun (l, i, xs) => [(0, bp b), (1, .int .i64 n), (5, l), (6, .int .i64 m), (7, .int .i64 i)]) (fun (l, i, xs) Hz => 0 ≤ i ∧ i ≤ n ∧ xs.length = i ∧ Own 3 Hz l (xs.map VI) H.n ∧ Box b Hz ∧ KeepX b H Hz) (fun (l, i, xs) => (n - i).toNat) (.slice none 0 0, 0, []) (by repeat' first | exact trivial | refine ⟨rfl, ?_⟩) ?_ ?_
  · exact ⟨by omega, by omega, rfl, .inl ⟨rfl, rfl⟩, hb1, hk1⟩
  rintro ⟨l, i, xs⟩ Hx ⟨hi0, hi1, hlen, hl, hbx, hkx⟩ hBx
  repeat' first
    | refine CO.cons rfl ?_
    | refine CO.nil ?_
    | refine CV.seq ?_
    | refine CV.region callees ?_
    | refine CV.cond ?_
    | refine CV.block ?_
    | refine CV.skip ?_
    | refine CV.exit ?_
    | refine CV.ret ?_
    | refine CV.scope ?_
    | refine CV.draw callees rfl ?_
    | refine CH.cons rfl ?_
    | refine CH.nil ?_
    | refine CO.consG rfl ?_
    | refine CH.consG rfl ?_
    | refine CG.cons rfl ?_
    | refine CG.nil ?_
    | refine CG.consG rfl ?_
    | refine ⟨(rfl : plain _ = true), ?_⟩
    | refine ⟨(rfl : nilOk _ = some _), ?_⟩
    | refine ⟨_, ints_len (by assumption), ?_⟩
    | refine ⟨_, ints_addr (by assumption) (by omega) (by omega), ?_⟩
    | refine ⟨_, ints_load (by assumption) (by omega) (by omega), ?_⟩
    | refine ⟨(⟨by omega, by omega⟩ : inI64 _), ?_⟩
    | refine ⟨_, fun tm ha => step1_max rfl (ev_tmp ha rfl) (ev_tmp ha rfl), ?_⟩
    | refine ⟨_, fun tm ha => step1_min rfl (ev_tmp ha rfl) (ev_tmp ha rfl), ?_⟩
    | (refine ⟨fun _ => ?_, fun _ => ?_⟩ <;> first | (exfalso; omega) | skip)
    | fail
  · refine (up_spec hB hBx hbx (by omega)).mono ?_
    rintro r H2 ⟨⟨x, rfl, hx0, hx1⟩, hb2, hk2⟩
    have hl2 := own_box hl hk2 hbx
    have hkx2 := hkx.trans hk2
    repeat' first
      | refine CO.cons rfl ?_
      | refine CO.nil ?_
      | refine CV.seq ?_
      | refine CV.region callees ?_
      | refine CV.cond ?_
      | refine CV.block ?_
      | refine CV.skip ?_
      | refine CV.exit ?_
      | refine CV.ret ?_
      | refine CV.scope ?_
      | refine CV.draw callees rfl ?_
      | refine CH.cons rfl ?_
      | refine CH.nil ?_
      | refine CO.consG rfl ?_
      | refine CH.consG rfl ?_
      | refine CG.cons rfl ?_
      | refine CG.nil ?_
      | refine CG.consG rfl ?_
      | refine ⟨(rfl : plain _ = true), ?_⟩
      | refine ⟨(rfl : nilOk _ = some _), ?_⟩
      | refine ⟨_, ints_len (by assumption), ?_⟩
      | refine ⟨_, ints_addr (by assumption) (by omega) (by omega), ?_⟩
      | refine ⟨_, ints_load (by assumption) (by omega) (by omega), ?_⟩
      | refine ⟨(⟨by omega, by omega⟩ : inI64 _), ?_⟩
      | refine ⟨_, fun tm ha => step1_max rfl (ev_tmp ha rfl) (ev_tmp ha rfl), ?_⟩
      | refine ⟨_, fun tm ha => step1_min rfl (ev_tmp ha rfl) (ev_tmp ha rfl), ?_⟩
      | refine ⟨_, _, build_one un22 one3 rfl, ?_⟩
      | (refine ⟨fun _ => ?_, fun _ => ?_⟩ <;> first | (exfalso; omega) | skip)
      | fail
    refine push_ask hl2 hkx2.1 hn (by omega) ?_
    intro l3 H3 hl3 kb3 hf3
    repeat' first
      | refine CO.cons rfl ?_
      | refine CO.nil ?_
      | refine CV.seq ?_
      | refine CV.region callees ?_
      | refine CV.cond ?_
      | refine CV.block ?_
      | refine CV.skip ?_
      | refine CV.exit ?_
      | refine CV.ret ?_
      | refine CV.scope ?_
      | refine CV.draw callees rfl ?_
      | refine CH.cons rfl ?_
      | refine CH.nil ?_
      | refine CO.consG rfl ?_
      | refine CH.consG rfl ?_
      | refine CG.cons rfl ?_
      | refine CG.nil ?_
      | refine CG.consG rfl ?_
      | refine ⟨(rfl : plain _ = true), ?_⟩
      | refine ⟨(rfl : nilOk _ = some _), ?_⟩
      | refine ⟨_, ints_len (by assumption), ?_⟩
      | refine ⟨_, ints_addr (by assumption) (by omega) (by omega), ?_⟩
      | refine ⟨_, ints_load (by assumption) (by omega) (by omega), ?_⟩
      | refine ⟨(⟨by omega, by omega⟩ : inI64 _), ?_⟩
      | refine ⟨_, fun tm ha => step1_max rfl (ev_tmp ha rfl) (ev_tmp ha rfl), ?_⟩
      | refine ⟨_, fun tm ha => step1_min rfl (ev_tmp ha rfl) (ev_tmp ha rfl), ?_⟩
      | (refine ⟨fun _ => ?_, fun _ => ?_⟩ <;> first | (exfalso; omega) | skip)
      | fail
    refine ⟨(l3, i + 1, xs ++ [x]), (by repeat' first | exact trivial | refine ⟨rfl, ?_⟩), (by (try dsimp only); omega), ?_⟩
    exact ⟨by omega, by omega, by simp; omega, hl3, hb2.keepBut kb3 (own_apartBox (H0 := H) hl2 hb.1), kb3.keepX hkx2 fun c hc => (hl2.lt hc).1⟩
  · refine (refOf_spec hBx hl.row).mono ?_
    rintro r H2 ⟨hof, hk2⟩
    rw [OfR, if_neg (by omega), if_neg (by omega)] at hof
    obtain ⟨u, rfl, hu⟩ := hof
    repeat' first
      | refine CO.cons rfl ?_
      | refine CO.nil ?_
      | refine CV.seq ?_
      | refine CV.region callees ?_
      | refine CV.cond ?_
      | refine CV.block ?_
      | refine CV.skip ?_
      | refine CV.exit ?_
      | refine CV.ret ?_
      | refine CV.scope ?_
      | refine CV.draw callees rfl ?_
      | refine CH.cons rfl ?_
      | refine CH.nil ?_
      | refine CO.consG rfl ?_
      | refine CH.consG rfl ?_
      | refine CG.cons rfl ?_
      | refine CG.nil ?_
      | refine CG.consG rfl ?_
      | refine ⟨(rfl : plain _ = true), ?_⟩
      | refine ⟨(rfl : nilOk _ = some _), ?_⟩
      | refine ⟨_, ints_len (by assumption), ?_⟩
      | refine ⟨_, ints_addr (by assumption) (by omega) (by omega), ?_⟩
      | refine ⟨_, ints_load (by assumption) (by omega) (by omega), ?_⟩
      | refine ⟨(⟨by omega, by omega⟩ : inI64 _), ?_⟩
      | refine ⟨_, fun tm ha => step1_max rfl (ev_tmp ha rfl) (ev_tmp ha rfl), ?_⟩
      | refine ⟨_, fun tm ha => step1_min rfl (ev_tmp ha rfl) (ev_tmp ha rfl), ?_⟩
      | (refine ⟨fun _ => ?_, fun _ => ?_⟩ <;> first | (exfalso; omega) | skip)
      | fail
    refine ⟨by simp only [List.all_cons, List.all_nil, hu.notTuple]; rfl, ⟨num xs [], check_of (by omega) (by omega), by rw [num_length]; omega, ?_⟩, hbx.keep hk2, hkx.trans (hk2.butX b)⟩
    rcases hu with hu | ⟨c, h1, h2, h3, h4⟩
    · exact .inl hu
    · exact .inr ⟨c, h1, Nat.le_trans hkx.1 h2, h3, h4⟩
end Go.Proofs.YteocbhefhobehaaDoor

/- Blocks, meets and joins. -/
namespace Go.Proofs.YteocbhefhobehaaDoor
open Go.AI
theorem from_bound : ∀ (xs : List Int) (b : Int), checkFrom xs b = 0 → ∀ i, i < xs.length → 0 ≤ xs[i]! ∧ xs[i]! < 9
  | [], _, _, i, h => by simp at h
  | x :: r, b, h, i, hi => by
    rw [checkFrom] at h
    split at h
    · cases h
    split at h
    · cases h
    cases i with
    | zero => simp; omega
    | succ i => simpa using from_bound r _ h i (by simpa using hi)
theorem check_bound {xs : List Int} (h : check xs = 0) {i : Nat} (hi : i < xs.length) : 0 ≤ xs[i]! ∧ xs[i]! < 9 := from_bound xs 0 (check_from h).1 i hi
theorem chk2_of {xs ys : List Int} (hx : check xs = 0) (hy : check ys = 0) (hl : xs.length = ys.length) : chk2 xs ys = 0 := by rw [chk2, if_pos hx, if_pos hy, if_pos hl]
theorem blk_bound {xs : List Int} (h : ∀ i, i < xs.length → 0 ≤ xs[i]! ∧ xs[i]! < 9) : True := trivial

set_option maxRecDepth 100000 in
theorem blocks_spec {B : Nat} {v : Value} {H : Heap} {xs : List Int} (hB : B ≤ H.n) (hv : Ints H v xs) (hb : ∀ i, i < xs.length → 0 ≤ xs[i]! ∧ xs[i]! < 9) (hn : xs.length < 1000000) :
    CallB Tryd.prog B 73 [v] H (fun r H' => r = .int .i64 (blkFrom xs 0) ∧ H' = H) := by
  refine CV.enter callees false rfl Tryd.func73 rfl ok73 (Nat.le_of_ble_eq_true rfl) hB ?_
  repeat' first
    | refine CO.cons rfl ?_
    | refine CO.nil ?_
    | refine CV.seq ?_
    | refine CV.region callees ?_
    | refine CV.cond ?_
    | refine CV.block ?_
    | refine CV.skip ?_
    | refine CV.exit ?_
    | refine CV.ret ?_
    | refine CV.scope ?_
    | refine CV.draw callees rfl ?_
    | refine CH.cons rfl ?_
    | refine CH.nil ?_
    | refine CO.consG rfl ?_
    | refine CH.consG rfl ?_
    | refine CG.cons rfl ?_
    | refine CG.nil ?_
    | refine CG.consG rfl ?_
    | refine ⟨(rfl : plain _ = true), ?_⟩
    | refine ⟨(rfl : nilOk _ = some _), ?_⟩
    | refine ⟨_, ints_len (by assumption), ?_⟩
    | refine ⟨_, ints_addr (by assumption) (by omega) (by omega), ?_⟩
    | refine ⟨_, ints_load (by assumption) (by omega) (by omega), ?_⟩
    | refine ⟨(⟨by omega, by omega⟩ : inI64 _), ?_⟩
    | refine ⟨_, fun tm ha => step1_max rfl (ev_tmp ha rfl) (ev_tmp ha rfl), ?_⟩
    | refine ⟨_, fun tm ha => step1_min rfl (ev_tmp ha rfl) (ev_tmp ha rfl), ?_⟩
    | (refine ⟨fun _ => ?_, fun _ => ?_⟩ <;> first | (exfalso; omega) | skip)
    | fail
  refine CV.loopc ?_
  refine WCv.rounds callees false (α := Int × Int) (fun (i, m) => [(0, v), (3, .int .i64 m), (4, .int .i64 i)]) (fun (i, m) Hz => Hz = H ∧ 0 ≤ i ∧ i ≤ xs.length ∧ 0 ≤ m ∧ m ≤ 9 ∧ blkFrom (xs.drop i.toNat) m = blkFrom xs 0) (fun (i, m) => xs.length - i.toNat) (0, 0) (by repeat' first | exact trivial | refine ⟨rfl, ?_⟩) ?_ ?_
  · exact ⟨rfl, by simp, by simp, by simp, by simp, by simp⟩
  rintro ⟨i, m⟩ Hx ⟨rfl, hi0, hi1, hm0, hm1, hc⟩ _
  by_cases hi : i < xs.length
  · have hx := hb i.toNat (by omega)
    rw [drop_cons (xs := xs) (n := i.toNat) (by omega), blkFrom] at hc
    repeat' first
      | refine CO.cons rfl ?_
      | refine CO.nil ?_
      | refine CV.seq ?_
      | refine CV.region callees ?_
      | refine CV.cond ?_
      | refine CV.block ?_
      | refine CV.skip ?_
      | refine CV.exit ?_
      | refine CV.ret ?_
      | refine CV.scope ?_
      | refine CV.draw callees rfl ?_
      | refine CH.cons rfl ?_
      | refine CH.nil ?_
      | refine CO.consG rfl ?_
      | refine CH.consG rfl ?_
      | refine CG.cons rfl ?_
      | refine CG.nil ?_
      | refine CG.consG rfl ?_
      | refine ⟨(rfl : plain _ = true), ?_⟩
      | refine ⟨(rfl : nilOk _ = some _), ?_⟩
      | refine ⟨_, ints_len (by assumption), ?_⟩
      | refine ⟨_, ints_addr (by assumption) (by omega) (by omega), ?_⟩
      | refine ⟨_, ints_load (by assumption) (by omega) (by omega), ?_⟩
      | refine ⟨(⟨by omega, by omega⟩ : inI64 _), ?_⟩
      | refine ⟨_, fun tm ha => step1_max rfl (ev_tmp ha rfl) (ev_tmp ha rfl), ?_⟩
      | refine ⟨_, fun tm ha => step1_min rfl (ev_tmp ha rfl) (ev_tmp ha rfl), ?_⟩
      | (refine ⟨fun _ => ?_, fun _ => ?_⟩ <;> first | (exfalso; omega) | skip)
      | fail
    refine ⟨(i + 1, max m (xs[i.toNat]! + 1)), (by repeat' first | exact trivial | refine ⟨rfl, ?_⟩), (by (try dsimp only); omega), ?_⟩
    exact ⟨rfl, by omega, by omega, by omega, by omega, by rw [show (i + 1).toNat = i.toNat + 1 by omega]; exact hc⟩
  · rw [show xs.drop i.toNat = [] by simp; omega, blkFrom] at hc
    repeat' first
      | refine CO.cons rfl ?_
      | refine CO.nil ?_
      | refine CV.seq ?_
      | refine CV.region callees ?_
      | refine CV.cond ?_
      | refine CV.block ?_
      | refine CV.skip ?_
      | refine CV.exit ?_
      | refine CV.ret ?_
      | refine CV.scope ?_
      | refine CV.draw callees rfl ?_
      | refine CH.cons rfl ?_
      | refine CH.nil ?_
      | refine CO.consG rfl ?_
      | refine CH.consG rfl ?_
      | refine CG.cons rfl ?_
      | refine CG.nil ?_
      | refine CG.consG rfl ?_
      | refine ⟨(rfl : plain _ = true), ?_⟩
      | refine ⟨(rfl : nilOk _ = some _), ?_⟩
      | refine ⟨_, ints_len (by assumption), ?_⟩
      | refine ⟨_, ints_addr (by assumption) (by omega) (by omega), ?_⟩
      | refine ⟨_, ints_load (by assumption) (by omega) (by omega), ?_⟩
      | refine ⟨(⟨by omega, by omega⟩ : inI64 _), ?_⟩
      | refine ⟨_, fun tm ha => step1_max rfl (ev_tmp ha rfl) (ev_tmp ha rfl), ?_⟩
      | refine ⟨_, fun tm ha => step1_min rfl (ev_tmp ha rfl) (ev_tmp ha rfl), ?_⟩
      | (refine ⟨fun _ => ?_, fun _ => ?_⟩ <;> first | (exfalso; omega) | skip)
      | fail
    exact ⟨rfl, by rw [hc], rfl⟩

/-- A pair of numbers as one. -/
def meetL (xs ys : List Int) : List Int := List.zipWith (fun a b => a * 9 + b) xs ys
theorem meetL_length {xs ys : List Int} (hl : xs.length = ys.length) : (meetL xs ys).length = xs.length := by simp [meetL, hl]
theorem meetL_at {xs ys : List Int} (hl : xs.length = ys.length) {i : Nat} (hi : i < xs.length) : (meetL xs ys)[i]! = xs[i]! * 9 + ys[i]! := by
  rw [getElem!_pos _ i (by rw [meetL_length hl]; exact hi), getElem!_pos xs i hi, getElem!_pos ys i (by omega)]
  simp [meetL]

/-- A list that is filled up to a place. -/
def upTo (f : Nat → Int) (l : List Int) (i : Nat) : List Int := (List.range i).map f ++ l.drop i
theorem upTo_length {f : Nat → Int} {l : List Int} {i : Nat} (h : i ≤ l.length) : (upTo f l i).length = l.length := by simp [upTo]; omega
theorem upTo_set {f : Nat → Int} {l : List Int} {i : Nat} (h : i < l.length) : (upTo f l i).set i (f i) = upTo f l (i + 1) := by
  unfold upTo
  rw [List.set_append_right _ _ (by simp), List.range_succ, List.map_append]
  simp only [List.length_map, List.length_range, Nat.sub_self]
  rw [List.drop_eq_getElem_cons h, List.set_cons_zero, List.append_assoc]
  rfl
theorem upTo_get {f : Nat → Int} {l : List Int} {i : Nat} (h : i < l.length) : (upTo f l i)[i]! = l[i]! := by
  rw [getElem!_pos _ i (by rw [upTo_length (by omega)]; exact h), getElem!_pos _ i h]
  simp [upTo]
theorem upTo_all {f : Nat → Int} {l m : List Int} (hl : l.length = m.length) (h : ∀ i, i < m.length → m[i]! = f i) : upTo f l l.length = m := by
  apply List.ext_getElem
  · rw [upTo_length (Nat.le_refl _), hl]
  · intro i h1 h2
    have := h i h2
    rw [getElem!_pos _ i h2] at this
    rw [this]
    simp [upTo, List.getElem_append, h2, hl]

/-- What a function of two partitions answers. -/
def TwoR (H : Heap) (xs ys : List Int) (good : List Int → Prop) (r : Value) (H' : Heap) : Prop :=
  if chk2 xs ys = 0 then ∃ u l, r = .tuple #[u, .int .i64 0] ∧ good l ∧ Own 3 H' u (l.map VI) H.n else r = .tuple #[.slice none 0 0, .int .i64 (chk2 xs ys)]

set_option maxRecDepth 100000 in
theorem meet_spec {B : Nat} {v u : Value} {H : Heap} {xs ys : List Int} (hB : B ≤ H.n) (hv : Ints H v xs) (hu : Ints H u ys) :
    CallB Tryd.prog B 43 [v, u] H (fun r H' => TwoR H xs ys (fun l => l = num (meetL xs ys) []) r H' ∧ Keep H H') := by
  refine CV.enter callees false rfl Tryd.func43 rfl ok43 (Nat.le_of_ble_eq_true rfl) hB ?_
  repeat' first
    | refine CO.cons rfl ?_
    | refine CO.nil ?_
    | refine CV.seq ?_
    | refine CV.region callees ?_
    | refine CV.cond ?_
    | refine CV.block ?_
    | refine CV.skip ?_
    | refine CV.exit ?_
    | refine CV.ret ?_
    | refine CV.scope ?_
    | refine CV.draw callees rfl ?_
    | refine CH.cons rfl ?_
    | refine CH.nil ?_
    | refine CO.consG rfl ?_
    | refine CH.consG rfl ?_
    | refine CG.cons rfl ?_
    | refine CG.nil ?_
    | refine CG.consG rfl ?_
    | refine ⟨(rfl : plain _ = true), ?_⟩
    | refine ⟨(rfl : nilOk _ = some _), ?_⟩
    | refine ⟨_, ints_len (by assumption), ?_⟩
    | refine ⟨_, ints_addr (by assumption) (by omega) (by omega), ?_⟩
    | refine ⟨_, ints_load (by assumption) (by omega) (by omega), ?_⟩
    | refine ⟨(⟨by omega, by omega⟩ : inI64 _), ?_⟩
    | refine ⟨_, fun tm ha => step1_max rfl (ev_tmp ha rfl) (ev_tmp ha rfl), ?_⟩
    | refine ⟨_, fun tm ha => step1_min rfl (ev_tmp ha rfl) (ev_tmp ha rfl), ?_⟩
    | (refine ⟨fun _ => ?_, fun _ => ?_⟩ <;> first | (exfalso; omega) | skip)
    | fail
  refine (checkBoth_spec hB hv hu).mono ?_
  rintro r H1 ⟨rfl, rfl⟩
  repeat' first
    | refine CO.cons rfl ?_
    | refine CO.nil ?_
    | refine CV.seq ?_
    | refine CV.region callees ?_
    | refine CV.cond ?_
    | refine CV.block ?_
    | refine CV.skip ?_
    | refine CV.exit ?_
    | refine CV.ret ?_
    | refine CV.scope ?_
    | refine CV.draw callees rfl ?_
    | refine CH.cons rfl ?_
    | refine CH.nil ?_
    | refine CO.consG rfl ?_
    | refine CH.consG rfl ?_
    | refine CG.cons rfl ?_
    | refine CG.nil ?_
    | refine CG.consG rfl ?_
    | refine ⟨(rfl : plain _ = true), ?_⟩
    | refine ⟨(rfl : nilOk _ = some _), ?_⟩
    | refine ⟨_, ints_len (by assumption), ?_⟩
    | refine ⟨_, ints_addr (by assumption) (by omega) (by omega), ?_⟩
    | refine ⟨_, ints_load (by assumption) (by omega) (by omega), ?_⟩
    | refine ⟨(⟨by omega, by omega⟩ : inI64 _), ?_⟩
    | refine ⟨_, fun tm ha => step1_max rfl (ev_tmp ha rfl) (ev_tmp ha rfl), ?_⟩
    | refine ⟨_, fun tm ha => step1_min rfl (ev_tmp ha rfl) (ev_tmp ha rfl), ?_⟩
    | (refine ⟨fun _ => ?_, fun _ => ?_⟩ <;> first | (exfalso; omega) | skip)
    | fail
  · exact ⟨rfl, by rw [TwoR, if_neg (by assumption)], Keep.refl _⟩
  have h0 : chk2 xs ys = 0 := Classical.not_not.1 (by assumption)
  obtain ⟨hcx, hcy, hl⟩ := chk2_zero h0
  have hlx := check_len hcx
  refine ⟨_, _, make_row un22 one3 (by omega) xs.length (by omega), ?_⟩
  repeat' first
    | refine CO.cons rfl ?_
    | refine CO.nil ?_
    | refine CV.seq ?_
    | refine CV.region callees ?_
    | refine CV.cond ?_
    | refine CV.block ?_
    | refine CV.skip ?_
    | refine CV.exit ?_
    | refine CV.ret ?_
    | refine CV.scope ?_
    | refine CV.draw callees rfl ?_
    | refine CH.cons rfl ?_
    | refine CH.nil ?_
    | refine CO.consG rfl ?_
    | refine CH.consG rfl ?_
    | refine CG.cons rfl ?_
    | refine CG.nil ?_
    | refine CG.consG rfl ?_
    | refine ⟨(rfl : plain _ = true), ?_⟩
    | refine ⟨(rfl : nilOk _ = some _), ?_⟩
    | refine ⟨_, ints_len (by assumption), ?_⟩
    | refine ⟨_, ints_addr (by assumption) (by omega) (by omega), ?_⟩
    | refine ⟨_, ints_load (by assumption) (by omega) (by omega), ?_⟩
    | refine ⟨(⟨by omega, by omega⟩ : inI64 _), ?_⟩
    | refine ⟨_, fun tm ha => step1_max rfl (ev_tmp ha rfl) (ev_tmp ha rfl), ?_⟩
    | refine ⟨_, fun tm ha => step1_min rfl (ev_tmp ha rfl) (ev_tmp ha rfl), ?_⟩
    | refine ⟨_, Row.alen (vs := List.replicate xs.length (VI 0)) (.inr (.inr ⟨_, 0, 0, _, _, 2, by rw [List.length_replicate], Nat.lt_succ_self _, Heap.get_new_eq _ _, by decide, by simp, fun j w h => by simpa using h⟩)) un22, ?_⟩
    | (refine ⟨fun _ => ?_, fun _ => ?_⟩ <;> first | (exfalso; omega) | skip)
    | fail
  rw [List.length_replicate]
  repeat' first
    | refine CO.cons rfl ?_
    | refine CO.nil ?_
    | refine CV.seq ?_
    | refine CV.region callees ?_
    | refine CV.cond ?_
    | refine CV.block ?_
    | refine CV.skip ?_
    | refine CV.exit ?_
    | refine CV.ret ?_
    | refine CV.scope ?_
    | refine CV.draw callees rfl ?_
    | refine CH.cons rfl ?_
    | refine CH.nil ?_
    | refine CO.consG rfl ?_
    | refine CH.consG rfl ?_
    | refine CG.cons rfl ?_
    | refine CG.nil ?_
    | refine CG.consG rfl ?_
    | refine ⟨(rfl : plain _ = true), ?_⟩
    | refine ⟨(rfl : nilOk _ = some _), ?_⟩
    | refine ⟨_, ints_len (by assumption), ?_⟩
    | refine ⟨_, ints_addr (by assumption) (by omega) (by omega), ?_⟩
    | refine ⟨_, ints_load (by assumption) (by omega) (by omega), ?_⟩
    | refine ⟨(⟨by omega, by omega⟩ : inI64 _), ?_⟩
    | refine ⟨_, fun tm ha => step1_max rfl (ev_tmp ha rfl) (ev_tmp ha rfl), ?_⟩
    | refine ⟨_, fun tm ha => step1_min rfl (ev_tmp ha rfl) (ev_tmp ha rfl), ?_⟩
    | (refine ⟨fun _ => ?_, fun _ => ?_⟩ <;> first | (exfalso; omega) | skip)
    | fail
  refine CV.loopc ?_
  refine WCv.rounds callees false (α := Int) (fun i => [(0, v), (1, u), (7, .slice (some ⟨H1.n, 0, none⟩) xs.length 0), (19, .int .i64 xs.length), (20, .int .i64 i)]) (fun i Hz => 0 ≤ i ∧ i ≤ xs.length ∧ Keep H1 Hz ∧ Own 3 Hz (.slice (some ⟨H1.n, 0, none⟩) xs.length 0) ((upTo (fun j => xs[j]! * 9 + ys[j]!) (List.replicate xs.length 0) i.toNat).map VI) H1.n) (fun i => xs.length - i.toNat) (0) (by repeat' first | exact trivial | refine ⟨rfl, ?_⟩) ?_ ?_
  · exact ⟨by omega, by omega, Keep.new _ _, .inr ⟨H1.n, by simp [upTo], Nat.le_refl _, Nat.lt_succ_self _, by rw [Heap.get_new_eq]; simp [upTo]⟩⟩
  rintro i Hx ⟨hi0, hi1, hk, hw⟩ hBx
  have hvx : Ints Hx v xs := hv.keep hk
  have hux : Ints Hx u ys := hu.keep hk
  by_cases hi : i < xs.length
  · have hx := check_bound hcx (i := i.toNat) (by omega)
    have hy := check_bound hcy (i := i.toNat) (by omega)
    have hwi : Ints Hx (.slice (some ⟨H1.n, 0, none⟩) xs.length 0) _ := hw.row
    have hlen : (upTo (fun j => xs[j]! * 9 + ys[j]!) (List.replicate xs.length 0) i.toNat).length = xs.length := by rw [upTo_length] <;> simp; omega
    repeat' first
      | refine CO.cons rfl ?_
      | refine CO.nil ?_
      | refine CV.seq ?_
      | refine CV.region callees ?_
      | refine CV.cond ?_
      | refine CV.block ?_
      | refine CV.skip ?_
      | refine CV.exit ?_
      | refine CV.ret ?_
      | refine CV.scope ?_
      | refine CV.draw callees rfl ?_
      | refine CH.cons rfl ?_
      | refine CH.nil ?_
      | refine CO.consG rfl ?_
      | refine CH.consG rfl ?_
      | refine CG.cons rfl ?_
      | refine CG.nil ?_
      | refine CG.consG rfl ?_
      | refine ⟨(rfl : plain _ = true), ?_⟩
      | refine ⟨(rfl : nilOk _ = some _), ?_⟩
      | refine ⟨_, ints_len (by assumption), ?_⟩
      | refine ⟨_, ints_addr (by assumption) (by omega) (by omega), ?_⟩
      | refine ⟨_, ints_load (by assumption) (by omega) (by omega), ?_⟩
      | refine ⟨(⟨by omega, by omega⟩ : inI64 _), ?_⟩
      | refine ⟨_, fun tm ha => step1_max rfl (ev_tmp ha rfl) (ev_tmp ha rfl), ?_⟩
      | refine ⟨_, fun tm ha => step1_min rfl (ev_tmp ha rfl) (ev_tmp ha rfl), ?_⟩
      | (refine ⟨fun _ => ?_, fun _ => ?_⟩ <;> first | (exfalso; omega) | skip)
      | fail
    refine put_ask (i := i.toNat) hw hB (by omega) ?_
    intro H2 hw2 kb2
    repeat' first
      | refine CO.cons rfl ?_
      | refine CO.nil ?_
      | refine CV.seq ?_
      | refine CV.region callees ?_
      | refine CV.cond ?_
      | refine CV.block ?_
      | refine CV.skip ?_
      | refine CV.exit ?_
      | refine CV.ret ?_
      | refine CV.scope ?_
      | refine CV.draw callees rfl ?_
      | refine CH.cons rfl ?_
      | refine CH.nil ?_
      | refine CO.consG rfl ?_
      | refine CH.consG rfl ?_
      | refine CG.cons rfl ?_
      | refine CG.nil ?_
      | refine CG.consG rfl ?_
      | refine ⟨(rfl : plain _ = true), ?_⟩
      | refine ⟨(rfl : nilOk _ = some _), ?_⟩
      | refine ⟨_, ints_len (by assumption), ?_⟩
      | refine ⟨_, ints_addr (by assumption) (by omega) (by omega), ?_⟩
      | refine ⟨_, ints_load (by assumption) (by omega) (by omega), ?_⟩
      | refine ⟨(⟨by omega, by omega⟩ : inI64 _), ?_⟩
      | refine ⟨_, fun tm ha => step1_max rfl (ev_tmp ha rfl) (ev_tmp ha rfl), ?_⟩
      | refine ⟨_, fun tm ha => step1_min rfl (ev_tmp ha rfl) (ev_tmp ha rfl), ?_⟩
      | (refine ⟨fun _ => ?_, fun _ => ?_⟩ <;> first | (exfalso; omega) | skip)
      | fail
    refine ⟨(i + 1), (by repeat' first | exact trivial | refine ⟨rfl, ?_⟩), (by (try dsimp only); omega), ?_⟩
    refine ⟨by omega, by omega, kb2.keep hk (fun c hc => by cases hc; exact Nat.le_refl _), ?_⟩
    rw [show (i + 1).toNat = i.toNat + 1 by omega, ← upTo_set (by simp; omega)]
    exact hw2
  · have hi' : i.toNat = xs.length := by omega
    have e : upTo (fun j => xs[j]! * 9 + ys[j]!) (List.replicate xs.length 0) i.toNat = meetL xs ys := by
      have := upTo_all (f := fun j => xs[j]! * 9 + ys[j]!) (l := List.replicate xs.length 0) (m := meetL xs ys) (by simp [meetL_length hl]) (fun i h => meetL_at hl (by rw [meetL_length hl] at h; exact h))
      rw [hi']; simpa using this
    rw [e] at hw
    repeat' first
      | refine CO.cons rfl ?_
      | refine CO.nil ?_
      | refine CV.seq ?_
      | refine CV.region callees ?_
      | refine CV.cond ?_
      | refine CV.block ?_
      | refine CV.skip ?_
      | refine CV.exit ?_
      | refine CV.ret ?_
      | refine CV.scope ?_
      | refine CV.draw callees rfl ?_
      | refine CH.cons rfl ?_
      | refine CH.nil ?_
      | refine CO.consG rfl ?_
      | refine CH.consG rfl ?_
      | refine CG.cons rfl ?_
      | refine CG.nil ?_
      | refine CG.consG rfl ?_
      | refine ⟨(rfl : plain _ = true), ?_⟩
      | refine ⟨(rfl : nilOk _ = some _), ?_⟩
      | refine ⟨_, ints_len (by assumption), ?_⟩
      | refine ⟨_, ints_addr (by assumption) (by omega) (by omega), ?_⟩
      | refine ⟨_, ints_load (by assumption) (by omega) (by omega), ?_⟩
      | refine ⟨(⟨by omega, by omega⟩ : inI64 _), ?_⟩
      | refine ⟨_, fun tm ha => step1_max rfl (ev_tmp ha rfl) (ev_tmp ha rfl), ?_⟩
      | refine ⟨_, fun tm ha => step1_min rfl (ev_tmp ha rfl) (ev_tmp ha rfl), ?_⟩
      | (refine ⟨fun _ => ?_, fun _ => ?_⟩ <;> first | (exfalso; omega) | skip)
      | fail
    refine (numbered_spec hBx hw.row (by rw [meetL_length hl]; omega)).mono ?_
    rintro r H2 ⟨hr, hk2⟩
    repeat' first
      | refine CO.cons rfl ?_
      | refine CO.nil ?_
      | refine CV.seq ?_
      | refine CV.region callees ?_
      | refine CV.cond ?_
      | refine CV.block ?_
      | refine CV.skip ?_
      | refine CV.exit ?_
      | refine CV.ret ?_
      | refine CV.scope ?_
      | refine CV.draw callees rfl ?_
      | refine CH.cons rfl ?_
      | refine CH.nil ?_
      | refine CO.consG rfl ?_
      | refine CH.consG rfl ?_
      | refine CG.cons rfl ?_
      | refine CG.nil ?_
      | refine CG.consG rfl ?_
      | refine ⟨(rfl : plain _ = true), ?_⟩
      | refine ⟨(rfl : nilOk _ = some _), ?_⟩
      | refine ⟨_, ints_len (by assumption), ?_⟩
      | refine ⟨_, ints_addr (by assumption) (by omega) (by omega), ?_⟩
      | refine ⟨_, ints_load (by assumption) (by omega) (by omega), ?_⟩
      | refine ⟨(⟨by omega, by omega⟩ : inI64 _), ?_⟩
      | refine ⟨_, fun tm ha => step1_max rfl (ev_tmp ha rfl) (ev_tmp ha rfl), ?_⟩
      | refine ⟨_, fun tm ha => step1_min rfl (ev_tmp ha rfl) (ev_tmp ha rfl), ?_⟩
      | (refine ⟨fun _ => ?_, fun _ => ?_⟩ <;> first | (exfalso; omega) | skip)
      | fail
    refine ⟨by simp only [List.all_cons, List.all_nil, hr.notTuple]; rfl, ?_, hk.trans hk2⟩
    rw [TwoR, if_pos h0]
    refine ⟨r, _, rfl, rfl, ?_⟩
    rcases hr with hr | ⟨c, h1, h2, h3, h4⟩
    · exact .inl hr
    · exact .inr ⟨c, h1, Nat.le_trans hk.1 h2, h3, h4⟩
end Go.Proofs.YteocbhefhobehaaDoor

/- Joins; three partitions. -/
namespace Go.Proofs.YteocbhefhobehaaDoor
open Go.AI
theorem rel_step_eq {l : List Int} {a b : Int} {i : Nat} (h : i < l.length) (he : l[i]! = a) : (upTo (fun j => (rel l a b)[j]!) l i).set i b = upTo (fun j => (rel l a b)[j]!) l (i + 1) := by
  have := upTo_set (f := fun j => (rel l a b)[j]!) h
  simp only [rel_at h, if_pos he] at this
  exact this
theorem rel_step_ne {l : List Int} {a b : Int} {i : Nat} (h : i < l.length) (he : ¬ l[i]! = a) : upTo (fun j => (rel l a b)[j]!) l i = upTo (fun j => (rel l a b)[j]!) l (i + 1) := by
  have := upTo_set (f := fun j => (rel l a b)[j]!) h
  rw [← this]
  simp only [rel_at h, if_neg he]
  apply List.ext_getElem
  · simp
  · intro j h1 h2
    rw [List.getElem_set]
    split
    · rename_i hj
      subst hj
      rw [← upTo_get (f := fun j => (rel l a b)[j]!) h, getElem!_pos (upTo (fun j => (rel l a b)[j]!) l i) i h1]
    · rfl

set_option maxRecDepth 100000 in
theorem relabel_spec {B B0 : Nat} {v : Value} {H : Heap} {l : List Int} {a b : Int} (hB : B ≤ H.n) (hB0 : B ≤ B0) (hv : Own 3 H v (l.map VI) B0) (hn : l.length < 1000000) :
    CallB Tryd.prog B 93 [v, .int .i64 a, .int .i64 b] H (fun r H' => Own 3 H' v ((rel l a b).map VI) B0 ∧ KeepBut v H H') := by
  refine CV.enter callees false rfl Tryd.func93 rfl ok93 (Nat.le_of_ble_eq_true rfl) hB ?_
  have hv0 : Ints H v l := hv.row
  repeat' first
    | refine CO.cons rfl ?_
    | refine CO.nil ?_
    | refine CV.seq ?_
    | refine CV.region callees ?_
    | refine CV.cond ?_
    | refine CV.block ?_
    | refine CV.skip ?_
    | refine CV.exit ?_
    | refine CV.ret ?_
    | refine CV.scope ?_
    | refine CV.draw callees rfl ?_
    | refine CH.cons rfl ?_
    | refine CH.nil ?_
    | refine CO.consG rfl ?_
    | refine CH.consG rfl ?_
    | refine CG.cons rfl ?_
    | refine CG.nil ?_
    | refine CG.consG rfl ?_
    | refine ⟨(rfl : plain _ = true), ?_⟩
    | refine ⟨(rfl : nilOk _ = some _), ?_⟩
    | refine ⟨_, ints_len (by assumption), ?_⟩
    | refine ⟨_, ints_addr (by assumption) (by omega) (by omega), ?_⟩
    | refine ⟨_, ints_load (by assumption) (by omega) (by omega), ?_⟩
    | refine ⟨(⟨by omega, by omega⟩ : inI64 _), ?_⟩
    | refine ⟨_, fun tm ha => step1_max rfl (ev_tmp ha rfl) (ev_tmp ha rfl), ?_⟩
    | refine ⟨_, fun tm ha => step1_min rfl (ev_tmp ha rfl) (ev_tmp ha rfl), ?_⟩
    | (refine ⟨fun _ => ?_, fun _ => ?_⟩ <;> first | (exfalso; omega) | skip)
    | fail
  refine CV.loopc ?_
  refine WCv.rounds callees false (α := Int) (fun i => [(0, v), (1, .int .i64 a), (2, .int .i64 b), (8, v), (9, .int .i64 l.length), (10, .int .i64 i)]) (fun i Hz => 0 ≤ i ∧ i ≤ l.length ∧ KeepBut v H Hz ∧ Own 3 Hz v ((upTo (fun j => (rel l a b)[j]!) l i.toNat).map VI) B0) (fun i => l.length - i.toNat) (0) (by repeat' first | exact trivial | refine ⟨rfl, ?_⟩) ?_ ?_
  · exact ⟨by omega, by omega, KeepBut.refl _ _, hv⟩
  rintro i Hx ⟨hi0, hi1, hk, hw⟩ hBx
  by_cases hi : i < l.length
  · have hwi : Ints Hx v _ := hw.row
    have hlen : (upTo (fun j => (rel l a b)[j]!) l i.toNat).length = l.length := by rw [upTo_length]; omega
    have hget : (upTo (fun j => (rel l a b)[j]!) l i.toNat)[i.toNat]! = l[i.toNat]! := upTo_get (by omega)
    repeat' first
      | refine CO.cons rfl ?_
      | refine CO.nil ?_
      | refine CV.seq ?_
      | refine CV.region callees ?_
      | refine CV.cond ?_
      | refine CV.block ?_
      | refine CV.skip ?_
      | refine CV.exit ?_
      | refine CV.ret ?_
      | refine CV.scope ?_
      | refine CV.draw callees rfl ?_
      | refine CH.cons rfl ?_
      | refine CH.nil ?_
      | refine CO.consG rfl ?_
      | refine CH.consG rfl ?_
      | refine CG.cons rfl ?_
      | refine CG.nil ?_
      | refine CG.consG rfl ?_
      | refine ⟨(rfl : plain _ = true), ?_⟩
      | refine ⟨(rfl : nilOk _ = some _), ?_⟩
      | refine ⟨_, ints_len (by assumption), ?_⟩
      | refine ⟨_, ints_addr (by assumption) (by omega) (by omega), ?_⟩
      | refine ⟨_, ints_load (by assumption) (by omega) (by omega), ?_⟩
      | refine ⟨(⟨by omega, by omega⟩ : inI64 _), ?_⟩
      | refine ⟨_, fun tm ha => step1_max rfl (ev_tmp ha rfl) (ev_tmp ha rfl), ?_⟩
      | refine ⟨_, fun tm ha => step1_min rfl (ev_tmp ha rfl) (ev_tmp ha rfl), ?_⟩
      | (refine ⟨fun _ => ?_, fun _ => ?_⟩ <;> first | (exfalso; omega) | skip)
      | fail
    · refine put_ask (i := i.toNat) hw hB0 (by omega) ?_
      intro H2 hw2 kb2
      repeat' first
        | refine CO.cons rfl ?_
        | refine CO.nil ?_
        | refine CV.seq ?_
        | refine CV.region callees ?_
        | refine CV.cond ?_
        | refine CV.block ?_
        | refine CV.skip ?_
        | refine CV.exit ?_
        | refine CV.ret ?_
        | refine CV.scope ?_
        | refine CV.draw callees rfl ?_
        | refine CH.cons rfl ?_
        | refine CH.nil ?_
        | refine CO.consG rfl ?_
        | refine CH.consG rfl ?_
        | refine CG.cons rfl ?_
        | refine CG.nil ?_
        | refine CG.consG rfl ?_
        | refine ⟨(rfl : plain _ = true), ?_⟩
        | refine ⟨(rfl : nilOk _ = some _), ?_⟩
        | refine ⟨_, ints_len (by assumption), ?_⟩
        | refine ⟨_, ints_addr (by assumption) (by omega) (by omega), ?_⟩
        | refine ⟨_, ints_load (by assumption) (by omega) (by omega), ?_⟩
        | refine ⟨(⟨by omega, by omega⟩ : inI64 _), ?_⟩
        | refine ⟨_, fun tm ha => step1_max rfl (ev_tmp ha rfl) (ev_tmp ha rfl), ?_⟩
        | refine ⟨_, fun tm ha => step1_min rfl (ev_tmp ha rfl) (ev_tmp ha rfl), ?_⟩
        | (refine ⟨fun _ => ?_, fun _ => ?_⟩ <;> first | (exfalso; omega) | skip)
        | fail
      refine ⟨(i + 1), (by repeat' first | exact trivial | refine ⟨rfl, ?_⟩), (by (try dsimp only); omega), ?_⟩
      refine ⟨by omega, by omega, hk.trans kb2, ?_⟩
      rw [show (i + 1).toNat = i.toNat + 1 by omega, ← rel_step_eq (by omega) (by rw [← hget]; assumption)]
      exact hw2
    · refine ⟨(i + 1), (by repeat' first | exact trivial | refine ⟨rfl, ?_⟩), (by (try dsimp only); omega), ?_⟩
      refine ⟨by omega, by omega, hk, ?_⟩
      rw [show (i + 1).toNat = i.toNat + 1 by omega, ← rel_step_ne (by omega) (by rw [← hget]; assumption)]
      exact hw
  · have e : upTo (fun j => (rel l a b)[j]!) l i.toNat = rel l a b := by
      rw [show i.toNat = l.length by omega]
      exact upTo_all (f := fun j => (rel l a b)[j]!) (m := rel l a b) (by rw [rel_length]) (fun i h => rfl)
    rw [e] at hw
    repeat' first
      | refine CO.cons rfl ?_
      | refine CO.nil ?_
      | refine CV.seq ?_
      | refine CV.region callees ?_
      | refine CV.cond ?_
      | refine CV.block ?_
      | refine CV.skip ?_
      | refine CV.exit ?_
      | refine CV.ret ?_
      | refine CV.scope ?_
      | refine CV.draw callees rfl ?_
      | refine CH.cons rfl ?_
      | refine CH.nil ?_
      | refine CO.consG rfl ?_
      | refine CH.consG rfl ?_
      | refine CG.cons rfl ?_
      | refine CG.nil ?_
      | refine CG.consG rfl ?_
      | refine ⟨(rfl : plain _ = true), ?_⟩
      | refine ⟨(rfl : nilOk _ = some _), ?_⟩
      | refine ⟨_, ints_len (by assumption), ?_⟩
      | refine ⟨_, ints_addr (by assumption) (by omega) (by omega), ?_⟩
      | refine ⟨_, ints_load (by assumption) (by omega) (by omega), ?_⟩
      | refine ⟨(⟨by omega, by omega⟩ : inI64 _), ?_⟩
      | refine ⟨_, fun tm ha => step1_max rfl (ev_tmp ha rfl) (ev_tmp ha rfl), ?_⟩
      | refine ⟨_, fun tm ha => step1_min rfl (ev_tmp ha rfl) (ev_tmp ha rfl), ?_⟩
      | (refine ⟨fun _ => ?_, fun _ => ?_⟩ <;> first | (exfalso; omega) | skip)
      | fail
    exact ⟨rfl, hw, hk⟩

/-- What holds while a list is joined: all pairs before a place have been seen to. -/
structure Joining (xs ys m : List Int) (i j : Int) : Prop where
  len : m.length = xs.length
  fine : Fine xs m
  least : ∀ t, Fine xs t → Fine ys t → Fine m t
  seen : ∀ a b : Nat, b < a → ((a : Int) < i ∨ ((a : Int) = i ∧ (b : Int) < j)) → ys[a]! = ys[b]! → m[a]! = m[b]!
theorem Joining.isJoin {xs ys m : List Int} {i j : Int} (h : Joining xs ys m i j) (hl : xs.length = ys.length) (hi : (ys.length : Int) ≤ i) : IsJoin xs ys m :=
  ⟨h.len, h.fine, fun a b hab ha he => h.seen a b hab (.inl (by omega)) he, h.least⟩
theorem Joining.skip {xs ys m : List Int} {i j : Int} (h : Joining xs ys m i j) (hi : 0 ≤ i) (hj : 0 ≤ j) (hne : ¬ ys[i.toNat]! = ys[j.toNat]!) : Joining xs ys m i (j + 1) :=
  ⟨h.len, h.fine, h.least, fun a b hab hc he => by
    by_cases hb : (a : Int) < i ∨ ((a : Int) = i ∧ (b : Int) < j)
    · exact h.seen a b hab hb he
    · have h1 : a = i.toNat := by omega
      have h2 : b = j.toNat := by omega
      subst h1; subst h2; exact absurd he hne⟩
theorem Joining.join {xs ys m : List Int} {i j : Int} (h : Joining xs ys m i j) (hl : xs.length = ys.length) (hi : 0 ≤ i) (hil : i < ys.length) (hj : 0 ≤ j) (hji : j < i) (he : ys[i.toNat]! = ys[j.toNat]!) : Joining xs ys (rel m m[i.toNat]! m[j.toNat]!) i (j + 1) := by
  have hlm := h.len
  refine ⟨by rw [rel_length, h.len], h.fine.trans h.len.symm (fine_rel _ _ _), fun t h1 h2 => rel_fine (by omega) (by omega) (h.least t h1 h2) (h2.all (by omega) (by omega) he), fun a b hab hc he' => ?_⟩
  have hf := fine_rel m m[i.toNat]! m[j.toNat]!
  by_cases hb : (a : Int) < i ∨ ((a : Int) = i ∧ (b : Int) < j)
  · exact hf.all (by omega) (by omega) (h.seen a b hab hb he')
  · have h1 : a = i.toNat := by omega
    have h2 : b = j.toNat := by omega
    subst h1; subst h2
    rw [rel_at (by omega), rel_at (by omega), if_pos rfl]
    split <;> rfl
theorem Joining.next {xs ys m : List Int} {i j : Int} (h : Joining xs ys m i j) (hj : j = i) : Joining xs ys m (i + 1) 0 :=
  ⟨h.len, h.fine, h.least, fun a b hab hc he => h.seen a b hab (by omega) he⟩

set_option maxRecDepth 100000 in
theorem join_spec {B : Nat} {v u : Value} {H : Heap} {xs ys : List Int} (hB : B ≤ H.n) (hv : Ints H v xs) (hu : Ints H u ys) :
    CallB Tryd.prog B 45 [v, u] H (fun r H' => TwoR H xs ys (fun l => ∃ s, IsJoin xs ys s ∧ l = num s []) r H' ∧ Keep H H') := by
  refine CV.enter callees false rfl Tryd.func45 rfl ok45 (Nat.le_of_ble_eq_true rfl) hB ?_
  repeat' first
    | refine CO.cons rfl ?_
    | refine CO.nil ?_
    | refine CV.seq ?_
    | refine CV.region callees ?_
    | refine CV.cond ?_
    | refine CV.block ?_
    | refine CV.skip ?_
    | refine CV.exit ?_
    | refine CV.ret ?_
    | refine CV.scope ?_
    | refine CV.draw callees rfl ?_
    | refine CH.cons rfl ?_
    | refine CH.nil ?_
    | refine CO.consG rfl ?_
    | refine CH.consG rfl ?_
    | refine CG.cons rfl ?_
    | refine CG.nil ?_
    | refine CG.consG rfl ?_
    | refine ⟨(rfl : plain _ = true), ?_⟩
    | refine ⟨(rfl : nilOk _ = some _), ?_⟩
    | refine ⟨_, ints_len (by assumption), ?_⟩
    | refine ⟨_, ints_addr (by assumption) (by omega) (by omega), ?_⟩
    | refine ⟨_, ints_load (by assumption) (by omega) (by omega), ?_⟩
    | refine ⟨(⟨by omega, by omega⟩ : inI64 _), ?_⟩
    | refine ⟨_, fun tm ha => step1_max rfl (ev_tmp ha rfl) (ev_tmp ha rfl), ?_⟩
    | refine ⟨_, fun tm ha => step1_min rfl (ev_tmp ha rfl) (ev_tmp ha rfl), ?_⟩
    | (refine ⟨fun _ => ?_, fun _ => ?_⟩ <;> first | (exfalso; omega) | skip)
    | fail
  refine (checkBoth_spec hB hv hu).mono ?_
  rintro r H1 ⟨rfl, rfl⟩
  repeat' first
    | refine CO.cons rfl ?_
    | refine CO.nil ?_
    | refine CV.seq ?_
    | refine CV.region callees ?_
    | refine CV.cond ?_
    | refine CV.block ?_
    | refine CV.skip ?_
    | refine CV.exit ?_
    | refine CV.ret ?_
    | refine CV.scope ?_
    | refine CV.draw callees rfl ?_
    | refine CH.cons rfl ?_
    | refine CH.nil ?_
    | refine CO.consG rfl ?_
    | refine CH.consG rfl ?_
    | refine CG.cons rfl ?_
    | refine CG.nil ?_
    | refine CG.consG rfl ?_
    | refine ⟨(rfl : plain _ = true), ?_⟩
    | refine ⟨(rfl : nilOk _ = some _), ?_⟩
    | refine ⟨_, ints_len (by assumption), ?_⟩
    | refine ⟨_, ints_addr (by assumption) (by omega) (by omega), ?_⟩
    | refine ⟨_, ints_load (by assumption) (by omega) (by omega), ?_⟩
    | refine ⟨(⟨by omega, by omega⟩ : inI64 _), ?_⟩
    | refine ⟨_, fun tm ha => step1_max rfl (ev_tmp ha rfl) (ev_tmp ha rfl), ?_⟩
    | refine ⟨_, fun tm ha => step1_min rfl (ev_tmp ha rfl) (ev_tmp ha rfl), ?_⟩
    | (refine ⟨fun _ => ?_, fun _ => ?_⟩ <;> first | (exfalso; omega) | skip)
    | fail
  · exact ⟨rfl, by rw [TwoR, if_neg (by assumption)], Keep.refl _⟩
  have h0 : chk2 xs ys = 0 := Classical.not_not.1 (by assumption)
  obtain ⟨hcx, hcy, hl⟩ := chk2_zero h0
  have hlx := check_len hcx
  refine (clone_spec hB hv (by omega)).mono ?_
  rintro w H2 ⟨hw, hk2⟩
  have hu2 : Ints H2 u ys := hu.keep hk2
  repeat' first
    | refine CO.cons rfl ?_
    | refine CO.nil ?_
    | refine CV.seq ?_
    | refine CV.region callees ?_
    | refine CV.cond ?_
    | refine CV.block ?_
    | refine CV.skip ?_
    | refine CV.exit ?_
    | refine CV.ret ?_
    | refine CV.scope ?_
    | refine CV.draw callees rfl ?_
    | refine CH.cons rfl ?_
    | refine CH.nil ?_
    | refine CO.consG rfl ?_
    | refine CH.consG rfl ?_
    | refine CG.cons rfl ?_
    | refine CG.nil ?_
    | refine CG.consG rfl ?_
    | refine ⟨(rfl : plain _ = true), ?_⟩
    | refine ⟨(rfl : nilOk _ = some _), ?_⟩
    | refine ⟨_, ints_len (by assumption), ?_⟩
    | refine ⟨_, ints_addr (by assumption) (by omega) (by omega), ?_⟩
    | refine ⟨_, ints_load (by assumption) (by omega) (by omega), ?_⟩
    | refine ⟨(⟨by omega, by omega⟩ : inI64 _), ?_⟩
    | refine ⟨_, fun tm ha => step1_max rfl (ev_tmp ha rfl) (ev_tmp ha rfl), ?_⟩
    | refine ⟨_, fun tm ha => step1_min rfl (ev_tmp ha rfl) (ev_tmp ha rfl), ?_⟩
    | (refine ⟨fun _ => ?_, fun _ => ?_⟩ <;> first | (exfalso; omega) | skip)
    | fail
  refine CV.loopc ?_
  refine WCv.rounds callees false (α := Int × List Int) (fun (i, m) => [(0, v), (1, u), (7, w), (19, .int .i64 ys.length), (20, .int .i64 i)]) (fun (i, m) Hz => 0 ≤ i ∧ i ≤ ys.length ∧ Keep H1 Hz ∧ Own 3 Hz w (m.map VI) H1.n ∧ Joining xs ys m i 0) (fun (i, m) => ys.length - i.toNat) (0, xs) (by repeat' first | exact trivial | refine ⟨rfl, ?_⟩) ?_ ?_
  · exact ⟨by omega, by omega, hk2, hw, ⟨rfl, Fine.refl _, fun t h _ => h, fun a b _ h _ => by omega⟩⟩
  rintro ⟨i, m⟩ Hx ⟨hi0, hi1, hk, hwx, hJ⟩ hBx
  by_cases hi : i < ys.length
  · repeat' first
      | refine CO.cons rfl ?_
      | refine CO.nil ?_
      | refine CV.seq ?_
      | refine CV.region callees ?_
      | refine CV.cond ?_
      | refine CV.block ?_
      | refine CV.skip ?_
      | refine CV.exit ?_
      | refine CV.ret ?_
      | refine CV.scope ?_
      | refine CV.draw callees rfl ?_
      | refine CH.cons rfl ?_
      | refine CH.nil ?_
      | refine CO.consG rfl ?_
      | refine CH.consG rfl ?_
      | refine CG.cons rfl ?_
      | refine CG.nil ?_
      | refine CG.consG rfl ?_
      | refine ⟨(rfl : plain _ = true), ?_⟩
      | refine ⟨(rfl : nilOk _ = some _), ?_⟩
      | refine ⟨_, ints_len (by assumption), ?_⟩
      | refine ⟨_, ints_addr (by assumption) (by omega) (by omega), ?_⟩
      | refine ⟨_, ints_load (by assumption) (by omega) (by omega), ?_⟩
      | refine ⟨(⟨by omega, by omega⟩ : inI64 _), ?_⟩
      | refine ⟨_, fun tm ha => step1_max rfl (ev_tmp ha rfl) (ev_tmp ha rfl), ?_⟩
      | refine ⟨_, fun tm ha => step1_min rfl (ev_tmp ha rfl) (ev_tmp ha rfl), ?_⟩
      | (refine ⟨fun _ => ?_, fun _ => ?_⟩ <;> first | (exfalso; omega) | skip)
      | fail
    refine CV.loopc ?_
    refine WCv.rounds callees false (α := Int × List Int) (fun (j, m) => [(0, v), (1, u), (7, w), (19, .int .i64 ys.length), (20, .int .i64 i), (8, .int .i64 i), (23, .int .i64 i), (24, .int .i64 j)]) (fun (j, m) Hz => 0 ≤ j ∧ j ≤ i ∧ Keep H1 Hz ∧ Own 3 Hz w (m.map VI) H1.n ∧ Joining xs ys m i j) (fun (j, m) => i.toNat - j.toNat) (0, m) (by repeat' first | exact trivial | refine ⟨rfl, ?_⟩) ?_ ?_
    · exact ⟨by omega, by omega, hk, hwx, hJ⟩
    rintro ⟨j, m⟩ Hy ⟨hj0, hj1, hky, hwy, hJy⟩ hBy
    have huy : Ints Hy u ys := hu.keep hky
    have hwi : Ints Hy w m := hwy.row
    have hlm := hJy.len
    by_cases hj : j < i
    · repeat' first
        | refine CO.cons rfl ?_
        | refine CO.nil ?_
        | refine CV.seq ?_
        | refine CV.region callees ?_
        | refine CV.cond ?_
        | refine CV.block ?_
        | refine CV.skip ?_
        | refine CV.exit ?_
        | refine CV.ret ?_
        | refine CV.scope ?_
        | refine CV.draw callees rfl ?_
        | refine CH.cons rfl ?_
        | refine CH.nil ?_
        | refine CO.consG rfl ?_
        | refine CH.consG rfl ?_
        | refine CG.cons rfl ?_
        | refine CG.nil ?_
        | refine CG.consG rfl ?_
        | refine ⟨(rfl : plain _ = true), ?_⟩
        | refine ⟨(rfl : nilOk _ = some _), ?_⟩
        | refine ⟨_, ints_len (by assumption), ?_⟩
        | refine ⟨_, ints_addr (by assumption) (by omega) (by omega), ?_⟩
        | refine ⟨_, ints_load (by assumption) (by omega) (by omega), ?_⟩
        | refine ⟨(⟨by omega, by omega⟩ : inI64 _), ?_⟩
        | refine ⟨_, fun tm ha => step1_max rfl (ev_tmp ha rfl) (ev_tmp ha rfl), ?_⟩
        | refine ⟨_, fun tm ha => step1_min rfl (ev_tmp ha rfl) (ev_tmp ha rfl), ?_⟩
        | (refine ⟨fun _ => ?_, fun _ => ?_⟩ <;> first | (exfalso; omega) | skip)
        | fail
      · refine (relabel_spec hBy hB hwy (by omega)).mono ?_
        rintro r H3 ⟨hw3, kb3⟩
        repeat' first
          | refine CO.cons rfl ?_
          | refine CO.nil ?_
          | refine CV.seq ?_
          | refine CV.region callees ?_
          | refine CV.cond ?_
          | refine CV.block ?_
          | refine CV.skip ?_
          | refine CV.exit ?_
          | refine CV.ret ?_
          | refine CV.scope ?_
          | refine CV.draw callees rfl ?_
          | refine CH.cons rfl ?_
          | refine CH.nil ?_
          | refine CO.consG rfl ?_
          | refine CH.consG rfl ?_
          | refine CG.cons rfl ?_
          | refine CG.nil ?_
          | refine CG.consG rfl ?_
          | refine ⟨(rfl : plain _ = true), ?_⟩
          | refine ⟨(rfl : nilOk _ = some _), ?_⟩
          | refine ⟨_, ints_len (by assumption), ?_⟩
          | refine ⟨_, ints_addr (by assumption) (by omega) (by omega), ?_⟩
          | refine ⟨_, ints_load (by assumption) (by omega) (by omega), ?_⟩
          | refine ⟨(⟨by omega, by omega⟩ : inI64 _), ?_⟩
          | refine ⟨_, fun tm ha => step1_max rfl (ev_tmp ha rfl) (ev_tmp ha rfl), ?_⟩
          | refine ⟨_, fun tm ha => step1_min rfl (ev_tmp ha rfl) (ev_tmp ha rfl), ?_⟩
          | (refine ⟨fun _ => ?_, fun _ => ?_⟩ <;> first | (exfalso; omega) | skip)
          | fail
        refine ⟨(j + 1, rel m m[i.toNat]! m[j.toNat]!), (by repeat' first | exact trivial | refine ⟨rfl, ?_⟩), (by (try dsimp only); omega), ?_⟩
        exact ⟨by omega, by omega, kb3.keep hky (fun c hc => (hwy.lt hc).1), hw3, hJy.join hl hi0 hi hj0 hj (by assumption)⟩
      · refine ⟨(j + 1, m), (by repeat' first | exact trivial | refine ⟨rfl, ?_⟩), (by (try dsimp only); omega), ?_⟩
        exact ⟨by omega, by omega, hky, hwy, hJy.skip hi0 hj0 (by assumption)⟩
    · repeat' first
        | refine CO.cons rfl ?_
        | refine CO.nil ?_
        | refine CV.seq ?_
        | refine CV.region callees ?_
        | refine CV.cond ?_
        | refine CV.block ?_
        | refine CV.skip ?_
        | refine CV.exit ?_
        | refine CV.ret ?_
        | refine CV.scope ?_
        | refine CV.draw callees rfl ?_
        | refine CH.cons rfl ?_
        | refine CH.nil ?_
        | refine CO.consG rfl ?_
        | refine CH.consG rfl ?_
        | refine CG.cons rfl ?_
        | refine CG.nil ?_
        | refine CG.consG rfl ?_
        | refine ⟨(rfl : plain _ = true), ?_⟩
        | refine ⟨(rfl : nilOk _ = some _), ?_⟩
        | refine ⟨_, ints_len (by assumption), ?_⟩
        | refine ⟨_, ints_addr (by assumption) (by omega) (by omega), ?_⟩
        | refine ⟨_, ints_load (by assumption) (by omega) (by omega), ?_⟩
        | refine ⟨(⟨by omega, by omega⟩ : inI64 _), ?_⟩
        | refine ⟨_, fun tm ha => step1_max rfl (ev_tmp ha rfl) (ev_tmp ha rfl), ?_⟩
        | refine ⟨_, fun tm ha => step1_min rfl (ev_tmp ha rfl) (ev_tmp ha rfl), ?_⟩
        | (refine ⟨fun _ => ?_, fun _ => ?_⟩ <;> first | (exfalso; omega) | skip)
        | fail
      refine ⟨(i + 1, m), (by repeat' first | exact trivial | refine ⟨rfl, ?_⟩), (by (try dsimp only); omega), ?_⟩
      exact ⟨by omega, by omega, hky, hwy, hJy.next (by omega)⟩
  · have hlm := hJ.len
    repeat' first
      | refine CO.cons rfl ?_
      | refine CO.nil ?_
      | refine CV.seq ?_
      | refine CV.region callees ?_
      | refine CV.cond ?_
      | refine CV.block ?_
      | refine CV.skip ?_
      | refine CV.exit ?_
      | refine CV.ret ?_
      | refine CV.scope ?_
      | refine CV.draw callees rfl ?_
      | refine CH.cons rfl ?_
      | refine CH.nil ?_
      | refine CO.consG rfl ?_
      | refine CH.consG rfl ?_
      | refine CG.cons rfl ?_
      | refine CG.nil ?_
      | refine CG.consG rfl ?_
      | refine ⟨(rfl : plain _ = true), ?_⟩
      | refine ⟨(rfl : nilOk _ = some _), ?_⟩
      | refine ⟨_, ints_len (by assumption), ?_⟩
      | refine ⟨_, ints_addr (by assumption) (by omega) (by omega), ?_⟩
      | refine ⟨_, ints_load (by assumption) (by omega) (by omega), ?_⟩
      | refine ⟨(⟨by omega, by omega⟩ : inI64 _), ?_⟩
      | refine ⟨_, fun tm ha => step1_max rfl (ev_tmp ha rfl) (ev_tmp ha rfl), ?_⟩
      | refine ⟨_, fun tm ha => step1_min rfl (ev_tmp ha rfl) (ev_tmp ha rfl), ?_⟩
      | (refine ⟨fun _ => ?_, fun _ => ?_⟩ <;> first | (exfalso; omega) | skip)
      | fail
    refine (numbered_spec hBx hwx.row (by omega)).mono ?_
    rintro r H3 ⟨hr, hk3⟩
    repeat' first
      | refine CO.cons rfl ?_
      | refine CO.nil ?_
      | refine CV.seq ?_
      | refine CV.region callees ?_
      | refine CV.cond ?_
      | refine CV.block ?_
      | refine CV.skip ?_
      | refine CV.exit ?_
      | refine CV.ret ?_
      | refine CV.scope ?_
      | refine CV.draw callees rfl ?_
      | refine CH.cons rfl ?_
      | refine CH.nil ?_
      | refine CO.consG rfl ?_
      | refine CH.consG rfl ?_
      | refine CG.cons rfl ?_
      | refine CG.nil ?_
      | refine CG.consG rfl ?_
      | refine ⟨(rfl : plain _ = true), ?_⟩
      | refine ⟨(rfl : nilOk _ = some _), ?_⟩
      | refine ⟨_, ints_len (by assumption), ?_⟩
      | refine ⟨_, ints_addr (by assumption) (by omega) (by omega), ?_⟩
      | refine ⟨_, ints_load (by assumption) (by omega) (by omega), ?_⟩
      | refine ⟨(⟨by omega, by omega⟩ : inI64 _), ?_⟩
      | refine ⟨_, fun tm ha => step1_max rfl (ev_tmp ha rfl) (ev_tmp ha rfl), ?_⟩
      | refine ⟨_, fun tm ha => step1_min rfl (ev_tmp ha rfl) (ev_tmp ha rfl), ?_⟩
      | (refine ⟨fun _ => ?_, fun _ => ?_⟩ <;> first | (exfalso; omega) | skip)
      | fail
    refine ⟨by simp only [List.all_cons, List.all_nil, hr.notTuple]; rfl, ?_, hk.trans hk3⟩
    rw [TwoR, if_pos h0]
    refine ⟨r, _, rfl, ⟨m, hJ.isJoin hl (by omega), rfl⟩, ?_⟩
    rcases hr with hr | ⟨c, h1, h2, h3, h4⟩
    · exact .inl hr
    · exact .inr ⟨c, h1, Nat.le_trans hk.1 h2, h3, h4⟩

set_option maxRecDepth 100000 in
theorem lawFiner_spec {B : Nat} {v u : Value} {H : Heap} {xs ys : List Int} (hB : B ≤ H.n) (hv : Ints H v xs) (hu : Ints H u ys) (h0 : chk2 xs ys = 0) :
    CallB Tryd.prog B 77 [v, u] H (fun r H' => (∃ b : Bool, r = .bool b ∧ (b = true ↔ Fine xs ys)) ∧ H' = H) := by
  refine CV.enter callees false rfl Tryd.func77 rfl ok77 (Nat.le_of_ble_eq_true rfl) hB ?_
  repeat' first
    | refine CO.cons rfl ?_
    | refine CO.nil ?_
    | refine CV.seq ?_
    | refine CV.region callees ?_
    | refine CV.cond ?_
    | refine CV.block ?_
    | refine CV.skip ?_
    | refine CV.exit ?_
    | refine CV.ret ?_
    | refine CV.scope ?_
    | refine CV.draw callees rfl ?_
    | refine CH.cons rfl ?_
    | refine CH.nil ?_
    | refine CO.consG rfl ?_
    | refine CH.consG rfl ?_
    | refine CG.cons rfl ?_
    | refine CG.nil ?_
    | refine CG.consG rfl ?_
    | refine ⟨(rfl : plain _ = true), ?_⟩
    | refine ⟨(rfl : nilOk _ = some _), ?_⟩
    | refine ⟨_, ints_len (by assumption), ?_⟩
    | refine ⟨_, ints_addr (by assumption) (by omega) (by omega), ?_⟩
    | refine ⟨_, ints_load (by assumption) (by omega) (by omega), ?_⟩
    | refine ⟨(⟨by omega, by omega⟩ : inI64 _), ?_⟩
    | refine ⟨_, fun tm ha => step1_max rfl (ev_tmp ha rfl) (ev_tmp ha rfl), ?_⟩
    | refine ⟨_, fun tm ha => step1_min rfl (ev_tmp ha rfl) (ev_tmp ha rfl), ?_⟩
    | (refine ⟨fun _ => ?_, fun _ => ?_⟩ <;> first | (exfalso; omega) | skip)
    | fail
  refine (finer_spec hB hv hu).mono ?_
  rintro r H1 ⟨⟨b, rfl, hb, _⟩, rfl⟩
  rw [h0]
  cases b
  · repeat' first
      | refine CO.cons rfl ?_
      | refine CO.nil ?_
      | refine CV.seq ?_
      | refine CV.region callees ?_
      | refine CV.cond ?_
      | refine CV.block ?_
      | refine CV.skip ?_
      | refine CV.exit ?_
      | refine CV.ret ?_
      | refine CV.scope ?_
      | refine CV.draw callees rfl ?_
      | refine CH.cons rfl ?_
      | refine CH.nil ?_
      | refine CO.consG rfl ?_
      | refine CH.consG rfl ?_
      | refine CG.cons rfl ?_
      | refine CG.nil ?_
      | refine CG.consG rfl ?_
      | refine ⟨(rfl : plain _ = true), ?_⟩
      | refine ⟨(rfl : nilOk _ = some _), ?_⟩
      | refine ⟨_, ints_len (by assumption), ?_⟩
      | refine ⟨_, ints_addr (by assumption) (by omega) (by omega), ?_⟩
      | refine ⟨_, ints_load (by assumption) (by omega) (by omega), ?_⟩
      | refine ⟨(⟨by omega, by omega⟩ : inI64 _), ?_⟩
      | refine ⟨_, fun tm ha => step1_max rfl (ev_tmp ha rfl) (ev_tmp ha rfl), ?_⟩
      | refine ⟨_, fun tm ha => step1_min rfl (ev_tmp ha rfl) (ev_tmp ha rfl), ?_⟩
      | (refine ⟨fun _ => ?_, fun _ => ?_⟩ <;> first | (exfalso; omega) | skip)
      | fail
    exact ⟨rfl, ⟨_, rfl, hb h0⟩, rfl⟩
  · repeat' first
      | refine CO.cons rfl ?_
      | refine CO.nil ?_
      | refine CV.seq ?_
      | refine CV.region callees ?_
      | refine CV.cond ?_
      | refine CV.block ?_
      | refine CV.skip ?_
      | refine CV.exit ?_
      | refine CV.ret ?_
      | refine CV.scope ?_
      | refine CV.draw callees rfl ?_
      | refine CH.cons rfl ?_
      | refine CH.nil ?_
      | refine CO.consG rfl ?_
      | refine CH.consG rfl ?_
      | refine CG.cons rfl ?_
      | refine CG.nil ?_
      | refine CG.consG rfl ?_
      | refine ⟨(rfl : plain _ = true), ?_⟩
      | refine ⟨(rfl : nilOk _ = some _), ?_⟩
      | refine ⟨_, ints_len (by assumption), ?_⟩
      | refine ⟨_, ints_addr (by assumption) (by omega) (by omega), ?_⟩
      | refine ⟨_, ints_load (by assumption) (by omega) (by omega), ?_⟩
      | refine ⟨(⟨by omega, by omega⟩ : inI64 _), ?_⟩
      | refine ⟨_, fun tm ha => step1_max rfl (ev_tmp ha rfl) (ev_tmp ha rfl), ?_⟩
      | refine ⟨_, fun tm ha => step1_min rfl (ev_tmp ha rfl) (ev_tmp ha rfl), ?_⟩
      | (refine ⟨fun _ => ?_, fun _ => ?_⟩ <;> first | (exfalso; omega) | skip)
      | fail
    exact ⟨rfl, ⟨_, rfl, hb h0⟩, rfl⟩
end Go.Proofs.YteocbhefhobehaaDoor

/- Three partitions. -/
namespace Go.Proofs.YteocbhefhobehaaDoor
open Go.AI
theorem row_nt {H : Heap} {v : Value} {vs : List Value} (h : Row H v vs) : notTuple v = true := by
  rcases h with ⟨rfl, _⟩ | ⟨rfl, _⟩ | ⟨_, _, _, _, _, _, rfl, _⟩ <;> rfl
theorem ints_nt {H : Heap} {v : Value} {xs : List Int} (h : Ints H v xs) : notTuple v = true := row_nt h

/-- Three partitions of as many packets. -/
structure P3 (H : Heap) (u v w : Value) (n : Nat) (ps qs rs : List Int) : Prop where
  hu : Ints H u ps
  hv : Ints H v qs
  hw : Ints H w rs
  cp : check ps = 0
  cq : check qs = 0
  cr : check rs = 0
  lp : ps.length = n
  lq : qs.length = n
  lr : rs.length = n
  n1 : 1 ≤ n
  n8 : n ≤ 8

set_option maxRecDepth 100000 in
theorem three_spec {B b : Nat} {H : Heap} (hB : B ≤ b) (hn : B ≤ H.n) (hb : Box b H) :
    CallB Tryd.prog B 76 [bp b] H (fun r H' => (∃ u v w n ps qs rs, r = .tuple #[u, v, w] ∧ P3 H' u v w n ps qs rs) ∧ Box b H' ∧ KeepX b H H') := by
  refine CV.enter callees false rfl Tryd.func76 rfl ok76 (Nat.le_of_ble_eq_true rfl) hn ?_
  repeat' first
    | refine CO.cons rfl ?_
    | refine CO.nil ?_
    | refine CV.seq ?_
    | refine CV.region callees ?_
    | refine CV.cond ?_
    | refine CV.block ?_
    | refine CV.skip ?_
    | refine CV.exit ?_
    | refine CV.ret ?_
    | refine CV.scope ?_
    | refine CV.draw callees rfl ?_
    | refine CH.cons rfl ?_
    | refine CH.nil ?_
    | refine CO.consG rfl ?_
    | refine CH.consG rfl ?_
    | refine CG.cons rfl ?_
    | refine CG.nil ?_
    | refine CG.consG rfl ?_
    | refine ⟨(rfl : plain _ = true), ?_⟩
    | refine ⟨(rfl : nilOk _ = some _), ?_⟩
    | refine ⟨_, ints_len (by assumption), ?_⟩
    | refine ⟨_, ints_addr (by assumption) (by omega) (by omega), ?_⟩
    | refine ⟨_, ints_load (by assumption) (by omega) (by omega), ?_⟩
    | refine ⟨(⟨by omega, by omega⟩ : inI64 _), ?_⟩
    | refine ⟨_, fun tm ha => step1_max rfl (ev_tmp ha rfl) (ev_tmp ha rfl), ?_⟩
    | refine ⟨_, fun tm ha => step1_min rfl (ev_tmp ha rfl) (ev_tmp ha rfl), ?_⟩
    | (refine ⟨fun _ => ?_, fun _ => ?_⟩ <;> first | (exfalso; omega) | skip)
    | fail
  refine (any_spec hB hn hb (by omega) (by omega) (by omega)).mono ?_
  rintro r H1 ⟨⟨n, rfl, hn1, hn8⟩, hb1, k1⟩
  have hB1 := Nat.le_trans hn k1.1
  repeat' first
    | refine CO.cons rfl ?_
    | refine CO.nil ?_
    | refine CV.seq ?_
    | refine CV.region callees ?_
    | refine CV.cond ?_
    | refine CV.block ?_
    | refine CV.skip ?_
    | refine CV.exit ?_
    | refine CV.ret ?_
    | refine CV.scope ?_
    | refine CV.draw callees rfl ?_
    | refine CH.cons rfl ?_
    | refine CH.nil ?_
    | refine CO.consG rfl ?_
    | refine CH.consG rfl ?_
    | refine CG.cons rfl ?_
    | refine CG.nil ?_
    | refine CG.consG rfl ?_
    | refine ⟨(rfl : plain _ = true), ?_⟩
    | refine ⟨(rfl : nilOk _ = some _), ?_⟩
    | refine ⟨_, ints_len (by assumption), ?_⟩
    | refine ⟨_, ints_addr (by assumption) (by omega) (by omega), ?_⟩
    | refine ⟨_, ints_load (by assumption) (by omega) (by omega), ?_⟩
    | refine ⟨(⟨by omega, by omega⟩ : inI64 _), ?_⟩
    | refine ⟨_, fun tm ha => step1_max rfl (ev_tmp ha rfl) (ev_tmp ha rfl), ?_⟩
    | refine ⟨_, fun tm ha => step1_min rfl (ev_tmp ha rfl) (ev_tmp ha rfl), ?_⟩
    | (refine ⟨fun _ => ?_, fun _ => ?_⟩ <;> first | (exfalso; omega) | skip)
    | fail
  refine (partitionOf_spec hB hB1 hb1 hn1 (by omega)).mono ?_
  rintro u H2 ⟨⟨ps, cp, lp, hu⟩, hb2, k2⟩
  have hB2 := Nat.le_trans hB1 k2.1
  repeat' first
    | refine CO.cons rfl ?_
    | refine CO.nil ?_
    | refine CV.seq ?_
    | refine CV.region callees ?_
    | refine CV.cond ?_
    | refine CV.block ?_
    | refine CV.skip ?_
    | refine CV.exit ?_
    | refine CV.ret ?_
    | refine CV.scope ?_
    | refine CV.draw callees rfl ?_
    | refine CH.cons rfl ?_
    | refine CH.nil ?_
    | refine CO.consG rfl ?_
    | refine CH.consG rfl ?_
    | refine CG.cons rfl ?_
    | refine CG.nil ?_
    | refine CG.consG rfl ?_
    | refine ⟨(rfl : plain _ = true), ?_⟩
    | refine ⟨(rfl : nilOk _ = some _), ?_⟩
    | refine ⟨_, ints_len (by assumption), ?_⟩
    | refine ⟨_, ints_addr (by assumption) (by omega) (by omega), ?_⟩
    | refine ⟨_, ints_load (by assumption) (by omega) (by omega), ?_⟩
    | refine ⟨(⟨by omega, by omega⟩ : inI64 _), ?_⟩
    | refine ⟨_, fun tm ha => step1_max rfl (ev_tmp ha rfl) (ev_tmp ha rfl), ?_⟩
    | refine ⟨_, fun tm ha => step1_min rfl (ev_tmp ha rfl) (ev_tmp ha rfl), ?_⟩
    | (refine ⟨fun _ => ?_, fun _ => ?_⟩ <;> first | (exfalso; omega) | skip)
    | fail
  refine (partitionOf_spec hB hB2 hb2 hn1 (by omega)).mono ?_
  rintro v H3 ⟨⟨qs, cq, lq, hv⟩, hb3, k3⟩
  have hB3 := Nat.le_trans hB2 k3.1
  have hu3 := own_box hu k3 hb2
  repeat' first
    | refine CO.cons rfl ?_
    | refine CO.nil ?_
    | refine CV.seq ?_
    | refine CV.region callees ?_
    | refine CV.cond ?_
    | refine CV.block ?_
    | refine CV.skip ?_
    | refine CV.exit ?_
    | refine CV.ret ?_
    | refine CV.scope ?_
    | refine CV.draw callees rfl ?_
    | refine CH.cons rfl ?_
    | refine CH.nil ?_
    | refine CO.consG rfl ?_
    | refine CH.consG rfl ?_
    | refine CG.cons rfl ?_
    | refine CG.nil ?_
    | refine CG.consG rfl ?_
    | refine ⟨(rfl : plain _ = true), ?_⟩
    | refine ⟨(rfl : nilOk _ = some _), ?_⟩
    | refine ⟨_, ints_len (by assumption), ?_⟩
    | refine ⟨_, ints_addr (by assumption) (by omega) (by omega), ?_⟩
    | refine ⟨_, ints_load (by assumption) (by omega) (by omega), ?_⟩
    | refine ⟨(⟨by omega, by omega⟩ : inI64 _), ?_⟩
    | refine ⟨_, fun tm ha => step1_max rfl (ev_tmp ha rfl) (ev_tmp ha rfl), ?_⟩
    | refine ⟨_, fun tm ha => step1_min rfl (ev_tmp ha rfl) (ev_tmp ha rfl), ?_⟩
    | (refine ⟨fun _ => ?_, fun _ => ?_⟩ <;> first | (exfalso; omega) | skip)
    | fail
  refine (partitionOf_spec hB hB3 hb3 hn1 (by omega)).mono ?_
  rintro w H4 ⟨⟨rs, cr, lr, hw⟩, hb4, k4⟩
  have hB4 := Nat.le_trans hB3 k4.1
  have hu4 := own_box hu3 k4 hb3
  have hv4 := own_box hv k4 hb3
  repeat' first
    | refine CO.cons rfl ?_
    | refine CO.nil ?_
    | refine CV.seq ?_
    | refine CV.region callees ?_
    | refine CV.cond ?_
    | refine CV.block ?_
    | refine CV.skip ?_
    | refine CV.exit ?_
    | refine CV.ret ?_
    | refine CV.scope ?_
    | refine CV.draw callees rfl ?_
    | refine CH.cons rfl ?_
    | refine CH.nil ?_
    | refine CO.consG rfl ?_
    | refine CH.consG rfl ?_
    | refine CG.cons rfl ?_
    | refine CG.nil ?_
    | refine CG.consG rfl ?_
    | refine ⟨(rfl : plain _ = true), ?_⟩
    | refine ⟨(rfl : nilOk _ = some _), ?_⟩
    | refine ⟨_, ints_len (by assumption), ?_⟩
    | refine ⟨_, ints_addr (by assumption) (by omega) (by omega), ?_⟩
    | refine ⟨_, ints_load (by assumption) (by omega) (by omega), ?_⟩
    | refine ⟨(⟨by omega, by omega⟩ : inI64 _), ?_⟩
    | refine ⟨_, fun tm ha => step1_max rfl (ev_tmp ha rfl) (ev_tmp ha rfl), ?_⟩
    | refine ⟨_, fun tm ha => step1_min rfl (ev_tmp ha rfl) (ev_tmp ha rfl), ?_⟩
    | (refine ⟨fun _ => ?_, fun _ => ?_⟩ <;> first | (exfalso; omega) | skip)
    | fail
  refine (up_spec hB hB4 hb4 (by omega)).mono ?_
  rintro r H5 ⟨⟨x, rfl, hx0, hx1⟩, hb5, k5⟩
  have hB5 := Nat.le_trans hB4 k5.1
  have hu5 := own_box hu4 k5 hb4
  have hv5 := own_box hv4 k5 hb4
  have hw5 := own_box hw k5 hb4
  have k05 := k1.trans (k2.trans (k3.trans (k4.trans k5)))
  repeat' first
    | refine CO.cons rfl ?_
    | refine CO.nil ?_
    | refine CV.seq ?_
    | refine CV.region callees ?_
    | refine CV.cond ?_
    | refine CV.block ?_
    | refine CV.skip ?_
    | refine CV.exit ?_
    | refine CV.ret ?_
    | refine CV.scope ?_
    | refine CV.draw callees rfl ?_
    | refine CH.cons rfl ?_
    | refine CH.nil ?_
    | refine CO.consG rfl ?_
    | refine CH.consG rfl ?_
    | refine CG.cons rfl ?_
    | refine CG.nil ?_
    | refine CG.consG rfl ?_
    | refine ⟨(rfl : plain _ = true), ?_⟩
    | refine ⟨(rfl : nilOk _ = some _), ?_⟩
    | refine ⟨_, ints_len (by assumption), ?_⟩
    | refine ⟨_, ints_addr (by assumption) (by omega) (by omega), ?_⟩
    | refine ⟨_, ints_load (by assumption) (by omega) (by omega), ?_⟩
    | refine ⟨(⟨by omega, by omega⟩ : inI64 _), ?_⟩
    | refine ⟨_, fun tm ha => step1_max rfl (ev_tmp ha rfl) (ev_tmp ha rfl), ?_⟩
    | refine ⟨_, fun tm ha => step1_min rfl (ev_tmp ha rfl) (ev_tmp ha rfl), ?_⟩
    | (refine ⟨fun _ => ?_, fun _ => ?_⟩ <;> first | (exfalso; omega) | skip)
    | fail
  · refine (ints_spec hB5 hu5.row (by omega)).mono ?_
    rintro q H6 ⟨hq, k6⟩
    have hB6 := Nat.le_trans hB5 k6.1
    have hb6 := hb5.keep k6
    repeat' first
      | refine CO.cons rfl ?_
      | refine CO.nil ?_
      | refine CV.seq ?_
      | refine CV.region callees ?_
      | refine CV.cond ?_
      | refine CV.block ?_
      | refine CV.skip ?_
      | refine CV.exit ?_
      | refine CV.ret ?_
      | refine CV.scope ?_
      | refine CV.draw callees rfl ?_
      | refine CH.cons rfl ?_
      | refine CH.nil ?_
      | refine CO.consG rfl ?_
      | refine CH.consG rfl ?_
      | refine CG.cons rfl ?_
      | refine CG.nil ?_
      | refine CG.consG rfl ?_
      | refine ⟨(rfl : plain _ = true), ?_⟩
      | refine ⟨(rfl : nilOk _ = some _), ?_⟩
      | refine ⟨_, ints_len (by assumption), ?_⟩
      | refine ⟨_, ints_addr (by assumption) (by omega) (by omega), ?_⟩
      | refine ⟨_, ints_load (by assumption) (by omega) (by omega), ?_⟩
      | refine ⟨(⟨by omega, by omega⟩ : inI64 _), ?_⟩
      | refine ⟨_, fun tm ha => step1_max rfl (ev_tmp ha rfl) (ev_tmp ha rfl), ?_⟩
      | refine ⟨_, fun tm ha => step1_min rfl (ev_tmp ha rfl) (ev_tmp ha rfl), ?_⟩
      | (refine ⟨fun _ => ?_, fun _ => ?_⟩ <;> first | (exfalso; omega) | skip)
      | fail
    refine (up_spec hB hB6 hb6 (by omega)).mono ?_
    rintro r H7 ⟨⟨y, rfl, hy0, hy1⟩, hb7, k7⟩
    have hB7 := Nat.le_trans hB6 k7.1
    have hq7 := own_box hq k7 hb6
    repeat' first
      | refine CO.cons rfl ?_
      | refine CO.nil ?_
      | refine CV.seq ?_
      | refine CV.region callees ?_
      | refine CV.cond ?_
      | refine CV.block ?_
      | refine CV.skip ?_
      | refine CV.exit ?_
      | refine CV.ret ?_
      | refine CV.scope ?_
      | refine CV.draw callees rfl ?_
      | refine CH.cons rfl ?_
      | refine CH.nil ?_
      | refine CO.consG rfl ?_
      | refine CH.consG rfl ?_
      | refine CG.cons rfl ?_
      | refine CG.nil ?_
      | refine CG.consG rfl ?_
      | refine ⟨(rfl : plain _ = true), ?_⟩
      | refine ⟨(rfl : nilOk _ = some _), ?_⟩
      | refine ⟨_, ints_len (by assumption), ?_⟩
      | refine ⟨_, ints_addr (by assumption) (by omega) (by omega), ?_⟩
      | refine ⟨_, ints_load (by assumption) (by omega) (by omega), ?_⟩
      | refine ⟨(⟨by omega, by omega⟩ : inI64 _), ?_⟩
      | refine ⟨_, fun tm ha => step1_max rfl (ev_tmp ha rfl) (ev_tmp ha rfl), ?_⟩
      | refine ⟨_, fun tm ha => step1_min rfl (ev_tmp ha rfl) (ev_tmp ha rfl), ?_⟩
      | (refine ⟨fun _ => ?_, fun _ => ?_⟩ <;> first | (exfalso; omega) | skip)
      | fail
    refine (up_spec hB hB7 hb7 (by omega)).mono ?_
    rintro r H8 ⟨⟨z, rfl, hz0, hz1⟩, hb8, k8⟩
    have hB8 := Nat.le_trans hB7 k8.1
    have hq8 := own_box hq7 k8 hb7
    have hqi : Ints H8 q ps := hq8.row
    repeat' first
      | refine CO.cons rfl ?_
      | refine CO.nil ?_
      | refine CV.seq ?_
      | refine CV.region callees ?_
      | refine CV.cond ?_
      | refine CV.block ?_
      | refine CV.skip ?_
      | refine CV.exit ?_
      | refine CV.ret ?_
      | refine CV.scope ?_
      | refine CV.draw callees rfl ?_
      | refine CH.cons rfl ?_
      | refine CH.nil ?_
      | refine CO.consG rfl ?_
      | refine CH.consG rfl ?_
      | refine CG.cons rfl ?_
      | refine CG.nil ?_
      | refine CG.consG rfl ?_
      | refine ⟨(rfl : plain _ = true), ?_⟩
      | refine ⟨(rfl : nilOk _ = some _), ?_⟩
      | refine ⟨_, ints_len (by assumption), ?_⟩
      | refine ⟨_, ints_addr (by assumption) (by omega) (by omega), ?_⟩
      | refine ⟨_, ints_load (by assumption) (by omega) (by omega), ?_⟩
      | refine ⟨(⟨by omega, by omega⟩ : inI64 _), ?_⟩
      | refine ⟨_, fun tm ha => step1_max rfl (ev_tmp ha rfl) (ev_tmp ha rfl), ?_⟩
      | refine ⟨_, fun tm ha => step1_min rfl (ev_tmp ha rfl) (ev_tmp ha rfl), ?_⟩
      | (refine ⟨fun _ => ?_, fun _ => ?_⟩ <;> first | (exfalso; omega) | skip)
      | fail
    refine put_ask (i := y.toNat) hq8 hB5 (by omega) ?_
    intro H9 hq9 kb9
    have hb9 : Box b H9 := hb8.keepBut kb9 (own_apartBox (H0 := H8) hq8 hb5.1)
    have hB9 := Nat.le_trans hB8 kb9.le
    repeat' first
      | refine CO.cons rfl ?_
      | refine CO.nil ?_
      | refine CV.seq ?_
      | refine CV.region callees ?_
      | refine CV.cond ?_
      | refine CV.block ?_
      | refine CV.skip ?_
      | refine CV.exit ?_
      | refine CV.ret ?_
      | refine CV.scope ?_
      | refine CV.draw callees rfl ?_
      | refine CH.cons rfl ?_
      | refine CH.nil ?_
      | refine CO.consG rfl ?_
      | refine CH.consG rfl ?_
      | refine CG.cons rfl ?_
      | refine CG.nil ?_
      | refine CG.consG rfl ?_
      | refine ⟨(rfl : plain _ = true), ?_⟩
      | refine ⟨(rfl : nilOk _ = some _), ?_⟩
      | refine ⟨_, ints_len (by assumption), ?_⟩
      | refine ⟨_, ints_addr (by assumption) (by omega) (by omega), ?_⟩
      | refine ⟨_, ints_load (by assumption) (by omega) (by omega), ?_⟩
      | refine ⟨(⟨by omega, by omega⟩ : inI64 _), ?_⟩
      | refine ⟨_, fun tm ha => step1_max rfl (ev_tmp ha rfl) (ev_tmp ha rfl), ?_⟩
      | refine ⟨_, fun tm ha => step1_min rfl (ev_tmp ha rfl) (ev_tmp ha rfl), ?_⟩
      | (refine ⟨fun _ => ?_, fun _ => ?_⟩ <;> first | (exfalso; omega) | skip)
      | fail
    refine (of_spec hB9 hq9.row).mono ?_
    rintro r H10 ⟨hof, k10⟩
    rw [OfR, List.length_set, if_neg (by omega), if_neg (by omega)] at hof
    obtain ⟨q2, rfl, hq2⟩ := hof
    have kk : KeepX b H5 H10 := ((kb9.keepX ((k6.butX b).trans (k7.trans k8)) (fun c hc => (hq8.lt hc).1)).trans (k10.butX b))
    have hu10 := own_box hu5 kk hb5
    have hw10 := own_box hw5 kk hb5
    repeat' first
      | refine CO.cons rfl ?_
      | refine CO.nil ?_
      | refine CV.seq ?_
      | refine CV.region callees ?_
      | refine CV.cond ?_
      | refine CV.block ?_
      | refine CV.skip ?_
      | refine CV.exit ?_
      | refine CV.ret ?_
      | refine CV.scope ?_
      | refine CV.draw callees rfl ?_
      | refine CH.cons rfl ?_
      | refine CH.nil ?_
      | refine CO.consG rfl ?_
      | refine CH.consG rfl ?_
      | refine CG.cons rfl ?_
      | refine CG.nil ?_
      | refine CG.consG rfl ?_
      | refine ⟨(rfl : plain _ = true), ?_⟩
      | refine ⟨(rfl : nilOk _ = some _), ?_⟩
      | refine ⟨_, ints_len (by assumption), ?_⟩
      | refine ⟨_, ints_addr (by assumption) (by omega) (by omega), ?_⟩
      | refine ⟨_, ints_load (by assumption) (by omega) (by omega), ?_⟩
      | refine ⟨(⟨by omega, by omega⟩ : inI64 _), ?_⟩
      | refine ⟨_, fun tm ha => step1_max rfl (ev_tmp ha rfl) (ev_tmp ha rfl), ?_⟩
      | refine ⟨_, fun tm ha => step1_min rfl (ev_tmp ha rfl) (ev_tmp ha rfl), ?_⟩
      | (refine ⟨fun _ => ?_, fun _ => ?_⟩ <;> first | (exfalso; omega) | skip)
      | fail
    refine ⟨by simp only [List.all_cons, List.all_nil, hu10.notTuple, hq2.notTuple, hw10.notTuple]; rfl, ⟨u, q2, w, n.toNat, ps, _, rs, rfl, hu10.row, hq2.row, hw10.row, cp, check_of (by rw [List.length_set]; omega) (by rw [List.length_set]; omega), cr, by omega, by rw [num_length, List.length_set]; omega, by omega, by omega, by omega⟩, hb9.keep k10, k05.trans kk⟩
  · refine (join_spec hB5 hu5.row hw5.row).mono ?_
    rintro r H6 ⟨hj, k6⟩
    rw [TwoR, if_pos (chk2_of cp cr (by omega))] at hj
    obtain ⟨q, l, rfl, ⟨s, hs, rfl⟩, hq⟩ := hj
    have hu6 := hu5.keep k6
    have hw6 := hw5.keep k6
    have hsl := hs.1
    repeat' first
      | refine CO.cons rfl ?_
      | refine CO.nil ?_
      | refine CV.seq ?_
      | refine CV.region callees ?_
      | refine CV.cond ?_
      | refine CV.block ?_
      | refine CV.skip ?_
      | refine CV.exit ?_
      | refine CV.ret ?_
      | refine CV.scope ?_
      | refine CV.draw callees rfl ?_
      | refine CH.cons rfl ?_
      | refine CH.nil ?_
      | refine CO.consG rfl ?_
      | refine CH.consG rfl ?_
      | refine CG.cons rfl ?_
      | refine CG.nil ?_
      | refine CG.consG rfl ?_
      | refine ⟨(rfl : plain _ = true), ?_⟩
      | refine ⟨(rfl : nilOk _ = some _), ?_⟩
      | refine ⟨_, ints_len (by assumption), ?_⟩
      | refine ⟨_, ints_addr (by assumption) (by omega) (by omega), ?_⟩
      | refine ⟨_, ints_load (by assumption) (by omega) (by omega), ?_⟩
      | refine ⟨(⟨by omega, by omega⟩ : inI64 _), ?_⟩
      | refine ⟨_, fun tm ha => step1_max rfl (ev_tmp ha rfl) (ev_tmp ha rfl), ?_⟩
      | refine ⟨_, fun tm ha => step1_min rfl (ev_tmp ha rfl) (ev_tmp ha rfl), ?_⟩
      | (refine ⟨fun _ => ?_, fun _ => ?_⟩ <;> first | (exfalso; omega) | skip)
      | fail
    refine ⟨by simp only [List.all_cons, List.all_nil, hu6.notTuple, hq.notTuple, hw6.notTuple]; rfl, ⟨u, q, w, n.toNat, ps, _, rs, rfl, hu6.row, hq.row, hw6.row, cp, check_of (by omega) (by omega), cr, by omega, by rw [num_length]; omega, by omega, by omega, by omega⟩, hb5.keep k6, k05.trans (k6.butX b)⟩
  · refine ⟨by simp only [List.all_cons, List.all_nil, hu5.notTuple, hv5.notTuple, hw5.notTuple]; rfl, ⟨u, v, w, n.toNat, ps, qs, rs, rfl, hu5.row, hv5.row, hw5.row, cp, cq, cr, by omega, by omega, by omega, by omega, by omega⟩, hb5, k05⟩
end Go.Proofs.YteocbhefhobehaaDoor
