/- Several texts in one. -/
import Derived.Test.YtglkphjjinmgmaaM7h
import Derived.Test.YtglkphjjinmgmaaM6h
set_option linter.unusedVariables false
set_option linter.unusedSimpArgs false
namespace Go.Proofs.Ytglkphjjinmgmaa
open Go.AI
theorem drop_atk {a:List Int} {i:Nat} (h:i < a.length):a.drop i = a[i]! :: a.drop (i + 1):=by
  rw [List.drop_eq_getElem_cons h,getElem!_pos a i h]
set_option maxRecDepth 100000 in
theorem less_spec {B:Nat} {H:Heap} {av bv:Value} {a b:List Int} (hB:B<=H.n) (ha:Ints H av a) (hb:Ints H bv b) (hl:a.length = b.length) (hn:a.length < 1000000) :
    CallB Try.prog B 61 [av,bv] H (fun v H'=>v = .bool (lessB a b)∧Keep H H'):=by
  refine CV.enter callees false rfl Try.func61 rfl (by kernel_rfl) (Nat.le_of_ble_eq_true rfl) hB ?_
  repeat' first | refine CO.cons rfl ?_ | refine CO.nil ?_ | refine CV.seq ?_ | refine CV.region callees ?_ | refine CV.block ?_ | fail
  refine CV.loopc ?_
  refine WCv.rounds callees false (α:=Nat) (fun i=>[(0,av),(1,bv),(5,VJ i)]) (fun i Hz=>i<=a.length∧lessB (a.drop i) (b.drop i) = lessB a b∧Keep H Hz) (fun i=>a.length - i) (0) (by repeat' first | exact trivial | refine ⟨rfl,?_⟩ | refine ⟨slot_int (by (try simp only [Int.toNat_natCast]); omega),?_⟩) ?_ ?_
  · exact ⟨by omega,rfl,Keep.refl _⟩
  rintro i Hx ⟨hi,hw,kx⟩ hBx
  have hax:Ints Hx av a:=Row.keep ha kx
  have hbx:Ints Hx bv b:=Row.keep hb kx
  by_cases hi2:i < a.length
  · rw [drop_atk hi2,drop_atk (show i < b.length by omega)] at hw
    simp only [lessB] at hw
    have hai:a[(i:Int).toNat]! = a[i]!:=rfl
    have hbi:b[(i:Int).toNat]! = b[i]!:=rfl
    by_cases e:a[i]! = b[i]!
    · rw [if_pos e] at hw
      repeat' first | refine CO.cons rfl ?_ | refine CO.nil ?_ | refine CV.seq ?_ | refine CV.region callees ?_ | refine CV.cond ?_ | refine CV.block ?_ | refine CV.skip ?_ | refine CV.draw callees (by decide +kernel) ?_ | refine CH.cons rfl ?_ | refine CH.nil ?_ | refine CO.consG rfl ?_ | refine ⟨_,ints_len (by assumption),?_⟩ | refine ⟨_,ints_addr (by assumption) (by omega) (by omega),?_⟩ | refine ⟨_,ints_load (by assumption) (by omega) (by omega),?_⟩ | refine ⟨(⟨by omega,by omega⟩:inI64 _),?_⟩ | (refine ⟨fun _=>?_,fun _=>?_⟩<;>try (exfalso; omega)) | fail
      refine ⟨(i + 1),(by repeat' first | exact trivial | refine ⟨rfl,?_⟩ | refine ⟨slot_int (by (try simp only [Int.toNat_natCast]); omega),?_⟩),(by (try dsimp only); omega),?_⟩
      exact ⟨by omega,hw,kx⟩
    · rw [if_neg e] at hw
      rw [<- hw]
      by_cases c:a[i]! < b[i]!
      · rw [decide_eq_true c]
        repeat' first | refine CO.cons rfl ?_ | refine CO.nil ?_ | refine CV.seq ?_ | refine CV.region callees ?_ | refine CV.cond ?_ | refine CV.block ?_ | refine CV.skip ?_ | refine CV.ret ?_ | refine CV.draw callees (by decide +kernel) ?_ | refine CH.cons rfl ?_ | refine CH.nil ?_ | refine CO.consG rfl ?_ | refine ⟨_,ints_len (by assumption),?_⟩ | refine ⟨_,ints_addr (by assumption) (by omega) (by omega),?_⟩ | refine ⟨_,ints_load (by assumption) (by omega) (by omega),?_⟩ | (refine ⟨fun _=>?_,fun _=>?_⟩<;>try (exfalso; omega)) | fail
        exact ⟨rfl,rfl,kx⟩
      · rw [decide_eq_false c]
        repeat' first | refine CO.cons rfl ?_ | refine CO.nil ?_ | refine CV.seq ?_ | refine CV.region callees ?_ | refine CV.cond ?_ | refine CV.block ?_ | refine CV.skip ?_ | refine CV.ret ?_ | refine CV.draw callees (by decide +kernel) ?_ | refine CH.cons rfl ?_ | refine CH.nil ?_ | refine CO.consG rfl ?_ | refine ⟨_,ints_len (by assumption),?_⟩ | refine ⟨_,ints_addr (by assumption) (by omega) (by omega),?_⟩ | refine ⟨_,ints_load (by assumption) (by omega) (by omega),?_⟩ | (refine ⟨fun _=>?_,fun _=>?_⟩<;>try (exfalso; omega)) | fail
        exact ⟨rfl,rfl,kx⟩
  obtain rfl:i = a.length:=by omega
  rw [List.drop_length] at hw
  rw [<- hw]
  repeat' first | refine CO.cons rfl ?_ | refine CO.nil ?_ | refine CV.seq ?_ | refine CV.region callees ?_ | refine CV.cond ?_ | refine CV.exit ?_ | refine CV.ret ?_ | refine CO.consG rfl ?_ | refine ⟨_,ints_len (by assumption),?_⟩ | (refine ⟨fun _=>?_,fun _=>?_⟩<;>try (exfalso; omega)) | fail
  exact ⟨rfl,rfl,kx⟩
set_option maxRecDepth 100000 in
theorem eqInts_spec {B:Nat} {H:Heap} {av bv:Value} {a b:List Int} (hB:B<=H.n) (ha:Ints H av a) (hb:Ints H bv b) (hn:a.length < 1000000) :
    CallB Try.prog B 42 [av,bv] H (fun v H'=>v = .bool (decide (a = b))∧Keep H H'):=by
  refine CV.enter callees false rfl Try.func42 rfl (by kernel_rfl) (Nat.le_of_ble_eq_true rfl) hB ?_
  by_cases hl:a.length = b.length
  · repeat' first | refine CO.cons rfl ?_ | refine CO.nil ?_ | refine CV.seq ?_ | refine CV.region callees ?_ | refine CV.cond ?_ | refine CV.block ?_ | refine CV.skip ?_ | refine ⟨_,ints_len (by assumption),?_⟩ | (refine ⟨fun _=>?_,fun _=>?_⟩<;>try (exfalso; omega)) | fail
    refine CV.loopc ?_
    refine WCv.rounds callees false (α:=Nat) (fun i=>[(0,av),(1,bv),(5,VJ i)]) (fun i Hz=>i<=a.length∧(∀ j,j < i->a[j]! = b[j]!)∧Keep H Hz) (fun i=>a.length - i) (0) (by repeat' first | exact trivial | refine ⟨rfl,?_⟩ | refine ⟨slot_int (by (try simp only [Int.toNat_natCast]); omega),?_⟩) ?_ ?_
    · exact ⟨by omega,fun j hj=>by omega,Keep.refl _⟩
    rintro i Hx ⟨hi,hw,kx⟩ hBx
    have hax:Ints Hx av a:=Row.keep ha kx
    have hbx:Ints Hx bv b:=Row.keep hb kx
    by_cases hi2:i < a.length
    · have hai:a[(i:Int).toNat]! = a[i]!:=rfl
      have hbi:b[(i:Int).toNat]! = b[i]!:=rfl
      by_cases e:a[i]! = b[i]!
      · repeat' first | refine CO.cons rfl ?_ | refine CO.nil ?_ | refine CV.seq ?_ | refine CV.region callees ?_ | refine CV.cond ?_ | refine CV.block ?_ | refine CV.skip ?_ | refine CV.draw callees (by decide +kernel) ?_ | refine CH.cons rfl ?_ | refine CH.nil ?_ | refine ⟨_,ints_len (by assumption),?_⟩ | refine ⟨_,ints_addr (by assumption) (by omega) (by omega),?_⟩ | refine ⟨_,ints_load (by assumption) (by omega) (by omega),?_⟩ | refine ⟨(⟨by omega,by omega⟩:inI64 _),?_⟩ | (refine ⟨fun _=>?_,fun _=>?_⟩<;>try (exfalso; omega)) | fail
        refine ⟨(i + 1),(by repeat' first | exact trivial | refine ⟨rfl,?_⟩ | refine ⟨slot_int (by (try simp only [Int.toNat_natCast]); omega),?_⟩),(by (try dsimp only); omega),?_⟩
        refine ⟨by omega,fun j hj=>?_,kx⟩
        by_cases c:j = i
        · rw [c]; exact e
        · exact hw j (by omega)
      · have hne:¬ a = b:=fun h=>e (by rw [h])
        rw [decide_eq_false hne]
        repeat' first | refine CO.cons rfl ?_ | refine CO.nil ?_ | refine CV.seq ?_ | refine CV.region callees ?_ | refine CV.cond ?_ | refine CV.block ?_ | refine CV.skip ?_ | refine CV.ret ?_ | refine CV.draw callees (by decide +kernel) ?_ | refine CH.cons rfl ?_ | refine CH.nil ?_ | refine ⟨_,ints_len (by assumption),?_⟩ | refine ⟨_,ints_addr (by assumption) (by omega) (by omega),?_⟩ | refine ⟨_,ints_load (by assumption) (by omega) (by omega),?_⟩ | (refine ⟨fun _=>?_,fun _=>?_⟩<;>try (exfalso; omega)) | fail
        exact ⟨rfl,rfl,kx⟩
    obtain rfl:i = a.length:=by omega
    have heq:a = b:=by
      apply List.ext_getElem hl
      intro j h1 h2
      have:=hw j h1
      rw [getElem!_pos a j h1,getElem!_pos b j h2] at this
      exact this
    rw [decide_eq_true heq]
    repeat' first | refine CO.cons rfl ?_ | refine CO.nil ?_ | refine CV.seq ?_ | refine CV.region callees ?_ | refine CV.cond ?_ | refine CV.exit ?_ | refine CV.ret ?_ | refine ⟨_,ints_len (by assumption),?_⟩ | (refine ⟨fun _=>?_,fun _=>?_⟩<;>try (exfalso; omega)) | fail
    exact ⟨rfl,rfl,kx⟩
  · have hne:¬ a = b:=fun h=>hl (by rw [h])
    rw [decide_eq_false hne]
    repeat' first | refine CO.cons rfl ?_ | refine CO.nil ?_ | refine CV.seq ?_ | refine CV.region callees ?_ | refine CV.cond ?_ | refine CV.ret ?_ | refine ⟨_,ints_len (by assumption),?_⟩ | (refine ⟨fun _=>?_,fun _=>?_⟩<;>try (exfalso; omega)) | fail
    exact ⟨rfl,rfl,Keep.refl _⟩
end Go.Proofs.Ytglkphjjinmgmaa
