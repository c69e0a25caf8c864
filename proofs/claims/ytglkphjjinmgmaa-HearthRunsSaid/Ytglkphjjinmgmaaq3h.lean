/- The reference's rounds: fire goes from coal to coal till nothing changes. -/
import Derived.Test.YtglkphjjinmgmaaM5h
import Derived.Test.Ytglkphjjinmgmaaq2h
set_option linter.unusedVariables false
set_option linter.unusedSimpArgs false
namespace Go.Proofs.Ytglkphjjinmgmaa
open Go.AI
def SpC (e:Int) (cs:List Co) (A:List Int) (f t:Int):Prop:=A[f.toNat]! < 1000000∧ca e (coAt cs t)<=bu e (coAt cs f)∧A[f.toNat]! + ca e (coAt cs t) < A[t.toNat]!
theorem Pre.isBeg {e:Int} {cs:List Co} {ts:List (Int × Int)} {B:List Int} (hf:FOk cs ts) (h:Pre e cs ts B) (hno:∀ j,j < ts.length->¬ SpC e cs B (ts[j]!).1 (ts[j]!).2∧¬ SpC e cs B (ts[j]!).2 (ts[j]!).1):IsBeg e cs ts B:=by
  have hn:∀ p,Arc e cs ts p->¬ (B[p.1.toNat]! + ca e (coAt cs p.2) < B[p.2.toNat]!):=by
    intro p hp hlt
    have ok:=hp.ok hf
    have hc:=ca_pos (e:=e) hf ok.2.1.1 ok.2.1.2
    have hl:=h.len
    have hb:=h.lo p.2.toNat (by omega)
    have hs:SpC e cs B p.1 p.2:=⟨by omega,hp.2,hlt⟩
    rcases hp.1 with hm | hm
    · obtain ⟨j,hj,e1⟩:=mem_ats hm
      exact (hno j hj).1 (by rw [e1]; exact hs)
    · obtain ⟨j,hj,e1⟩:=mem_ats hm
      exact (hno j hj).2 (by rw [e1]; exact hs)
  refine ⟨h.len,h.lo,h.lit,fun p hp=>?_,fun i hi hl=>?_⟩
  · have:=hn p hp; omega
  · rcases h.via i hi hl with h2 | ⟨p,hp,hpi,h3,h4⟩
    · exact .inl h2
    · have h5:=hn p hp
      have h6:p.2.toNat = i:=by omega
      rw [h6] at h5
      exact .inr ⟨p,hp,hpi,by omega,h4⟩
theorem Pre.spread {e:Int} {cs:List Co} {ts:List (Int × Int)} {A:List Int} {f t:Int} (hf:FOk cs ts) (h:Pre e cs ts A) (hp:(f,t) ∈ ts ∨ (t,f) ∈ ts) (hs:SpC e cs A f t):Pre e cs ts (A.set t.toNat (A[f.toNat]! + ca e (coAt cs t)))∧sumI (A.set t.toNat (A[f.toNat]! + ca e (coAt cs t))) < sumI A:=by
  have arc:Arc e cs ts (f,t):=⟨hp,hs.2.1⟩
  have ok:=arc.ok hf
  have hl:=h.len
  refine ⟨h.lower hf arc hs.2.2,?_⟩
  have h2:=hs.2.2
  rw [sumI_set (by have:=ok.2.1; dsimp only at this; omega)]
  omega
structure Look (e:Int) (cs:List Co) (ts:List (Int × Int)) (A0:List Int) (j:Nat) (A:List Int) (more:Bool):Prop where
  pre:Pre e cs ts A
  le:sumI A<=sumI A0
  yes:more = true->sumI A < sumI A0
  no:more = false->A = A0∧∀ k,k < j->¬ SpC e cs A0 (ts[k]!).1 (ts[k]!).2∧¬ SpC e cs A0 (ts[k]!).2 (ts[k]!).1
structure OneWay (e:Int) (cs:List Co) (A:List Int) (f t:Int) (A':List Int) (w:Bool):Prop where
  yes:w = true->SpC e cs A f t∧A' = A.set t.toNat (A[f.toNat]! + ca e (coAt cs t))
  no:w = false->¬ SpC e cs A f t∧A' = A
theorem OneWay.pre {e:Int} {cs:List Co} {ts:List (Int × Int)} {A A':List Int} {f t:Int} {w:Bool} (hf:FOk cs ts) (h:OneWay e cs A f t A' w) (hp:(f,t) ∈ ts ∨ (t,f) ∈ ts) (ha:Pre e cs ts A):Pre e cs ts A'∧sumI A'<=sumI A∧(w = true->sumI A' < sumI A):=by
  cases w with
  | true =>
    obtain ⟨h1,rfl⟩:=h.yes rfl
    obtain ⟨h2,h3⟩:=ha.spread hf hp h1
    exact ⟨h2,by omega,fun _=>h3⟩
  | false =>
    obtain ⟨_,rfl⟩:=h.no rfl
    exact ⟨ha,Int.le_refl _,fun h=>by cases h⟩
theorem Look.next {e:Int} {cs:List Co} {ts:List (Int × Int)} {A0 A A1 A2:List Int} {j:Nat} {more w1 w2:Bool} (hf:FOk cs ts) (hj:j < ts.length) (h:Look e cs ts A0 j A more) (h1:OneWay e cs A (ts[j]!).1 (ts[j]!).2 A1 w1) (h2:OneWay e cs A1 (ts[j]!).2 (ts[j]!).1 A2 w2):Look e cs ts A0 (j + 1) A2 (more || w1 || w2):=by
  have hm:=mem_at2 hj
  obtain ⟨p1,s1,y1⟩:=h1.pre hf (.inl hm) h.pre
  obtain ⟨p2,s2,y2⟩:=h2.pre hf (.inr hm) p1
  have hle:=h.le
  refine ⟨p2,by omega,fun hy=>?_,fun hn=>?_⟩
  · cases more with
    | true=>have:=h.yes rfl; omega
    | false =>
      cases w1 with
      | true=>have:=y1 rfl; omega
      | false =>
        cases w2 with
        | true=>have:=y2 rfl; omega
        | false=>cases hy
  · simp only [Bool.or_eq_false_iff] at hn
    obtain ⟨⟨rfl,rfl⟩,rfl⟩:=hn
    obtain ⟨rfl,hk⟩:=h.no rfl
    obtain ⟨a1,rfl⟩:=h1.no rfl
    obtain ⟨a2,rfl⟩:=h2.no rfl
    refine ⟨rfl,fun k hk2=>?_⟩
    by_cases hkj:k = j
    · subst hkj; exact ⟨a1,a2⟩
    · exact hk k (by omega)
end Go.Proofs.Ytglkphjjinmgmaa
