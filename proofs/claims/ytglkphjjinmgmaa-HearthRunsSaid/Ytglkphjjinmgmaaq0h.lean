/- Which fires,kettles and pours may be: errors. -/
import Derived.Test.YtglkphjjinmgmaaM3h
set_option linter.unusedVariables false
set_option linter.unusedSimpArgs false
namespace Go.Proofs.Ytglkphjjinmgmaa
open Go.AI
def spE (p:Int × Int) (a b:Int):Int:=if (a<=p.1∧p.1<=b)∧(a<=p.2∧p.2<=b) then (if p.1<=p.2 then 0 else 11) else 2
theorem spE_zero {p:Int × Int} {a b:Int} (h:spE p a b = 0):a<=p.1∧p.1<=p.2∧p.2<=b:=by
  unfold spE at h
  split at h
  · split at h<;>omega
  · omega
def coE (c:Co):Int:=if spE (c.cl,c.ch) 1 300 = 0 then (if spE (c.bl,c.bh) 1 300 = 0 then spE (c.hl,c.hh) 0 1000 else spE (c.bl,c.bh) 1 300) else spE (c.cl,c.ch) 1 300
theorem coE_zero {c:Co} (h:coE c = 0):CoOk c:=by
  unfold coE at h
  split at h
  · rename_i h1
    split at h
    · rename_i h2
      obtain ⟨a1,a2,a3⟩:=spE_zero h1
      obtain ⟨b1,b2,b3⟩:=spE_zero h2
      obtain ⟨c1,c2,c3⟩:=spE_zero h
      exact ⟨a1,a2,a3,b1,b2,b3,c1,c2,c3⟩
    · rename_i h2; exact absurd h h2
  · rename_i h2; exact absurd h h2
def toE (n:Int) (t:Int × Int):Int:=if (0<=t.1∧t.1<=n - 1)∧(0<=t.2∧t.2<=n - 1) then (if t.1 = t.2 then 12 else 0) else 7
def firE {α:Type} (f:α->Int):List α->Int
  | []=>0
  | x :: l=>if f x = 0 then firE f l else f x
theorem drop_atq {α:Type} [Inhabited α] {l:List α} {j:Nat} (h:j < l.length):l.drop j = l[j]! :: l.drop (j + 1):=by
  rw [List.drop_eq_getElem_cons h,getElem!_pos l j h]
theorem firE_go {α:Type} [Inhabited α] {f:α->Int} {l:List α} {i:Nat} (h:i < l.length) (h0:f l[i]! = 0):firE f (l.drop i) = firE f (l.drop (i + 1)):=by
  rw [drop_atq h,firE,if_pos h0]
theorem firE_at {α:Type} [Inhabited α] {f:α->Int} {l:List α} {i:Nat} (h:i < l.length) (h0:f l[i]! ≠ 0):firE f (l.drop i) = f l[i]!:=by
  rw [drop_atq h,firE,if_neg h0]
theorem firE_end {α:Type} {f:α->Int} {l:List α}:firE f (l.drop l.length) = 0:=by
  rw [List.drop_length]; rfl
theorem firE_zero {α:Type} [Inhabited α] {f:α->Int}:∀ {l:List α},firE f l = 0->∀ i,i < l.length->f l[i]! = 0
  | [],_,i,hi=>by simp at hi
  | x :: l,h,i,hi=>by
    unfold firE at h
    split at h
    · rename_i h0
      cases i with
      | zero=>simpa using h0
      | succ i =>
        have:=firE_zero (f:=f) (l:=l) h i (by simpa using hi)
        simpa using this
    · rename_i h0; exact absurd h h0
def fiE (cs:List Co) (ts:List (Int × Int)):Int:=if cs.length<=12 then (if firE coE cs = 0 then (if ts.length<=40 then firE (toE cs.length) ts else 8) else firE coE cs) else 8
theorem fiE_zero {cs:List Co} {ts:List (Int × Int)} (h:fiE cs ts = 0):FOk cs ts:=by
  unfold fiE at h
  split at h
  · rename_i h1
    split at h
    · rename_i h2
      split at h
      · rename_i h3
        refine ⟨h1,fun i hi=>coE_zero (firE_zero h2 i hi),h3,fun i hi=>?_⟩
        have h4:=firE_zero h i hi
        unfold toE at h4
        split at h4
        · split at h4
          · omega
          · exact ⟨by omega,by omega,by assumption⟩
        · omega
      · omega
    · rename_i h2; exact absurd h h2
  · omega
def keE (k:Ke):Int:=if 1<=k.wa∧k.wa<=50 then (if spE (k.wl,k.wh) 0 1000 = 0 then (if (((0<=k.ro∧k.ro<=1000)∧(0<=k.si∧k.si<=1000))∧(0<=k.bo∧k.bo<=1000))∧(0<=k.ga∧k.ga<=1000)∧(0<=k.lo∧k.lo<=1000000) then (if k.si<=k.bo then 0 else 11) else 2) else spE (k.wl,k.wh) 0 1000) else 2
theorem keE_zero {k:Ke} (h:keE k = 0):KOk k:=by
  unfold keE at h
  split at h
  · rename_i h1
    split at h
    · rename_i h2
      split at h
      · rename_i h3
        split at h
        · obtain ⟨a1,a2,a3⟩:=spE_zero h2
          exact ⟨h1.1,h1.2,a1,a2,a3,by omega,by omega,by omega,by omega,by omega,by omega,by omega,by omega,by omega⟩
        · omega
      · omega
    · rename_i h2; exact absurd h h2
  · omega
def poB (p:Po):Prop:=(0<=p.mi∧p.mi<=300)∧(-50<=p.la∧p.la<=50)∧p.la ≠ 0∧(0<=p.wm∧p.wm<=1000)
instance {p:Po}:Decidable (poB p):=by unfold poB; infer_instance
def poE:Int->Int->List Po->Int
  | _,_,[]=>0
  | w,m,p :: r=>if poB p then (if m<=p.mi then (if 1<=w + p.la∧w + p.la<=50 then poE (w + p.la) p.mi r else 14) else 11) else 2
theorem watN_cons {w:Int} {p:Po} {r:List Po} {i:Nat}:watN w (p :: r) (i + 1) = watN (w + p.la) r i:=by
  simp only [watN,List.map_cons,List.take_succ_cons,sumI]; omega
theorem poE_zero:∀ {l:List Po} {w m:Int},poE w m l = 0->(∀ i,i < l.length->poB l[i]!)∧(0 < l.length->m<=l[0]!.mi)∧(∀ i,i + 1 < l.length->l[i]!.mi<=l[i + 1]!.mi)∧(∀ i,i < l.length->1<=watN w l (i + 1)∧watN w l (i + 1)<=50)
  | [],_,_,_=>⟨fun i hi=>by simp at hi,fun h=>by simp at h,fun i hi=>by simp at hi,fun i hi=>by simp at hi⟩
  | p :: r,w,m,h=>by
    unfold poE at h
    split at h
    · rename_i h1
      split at h
      · rename_i h2
        split at h
        · rename_i h3
          obtain ⟨a,b,c,d⟩:=poE_zero h
          refine ⟨fun i hi=>?_,fun _=>by simpa using h2,fun i hi=>?_,fun i hi=>?_⟩
          · cases i with
            | zero=>simpa using h1
            | succ i=>have:=a i (by simpa using hi); simpa using this
          · cases i with
            | zero=>have:=b (by simpa using hi); simpa using this
            | succ i=>have:=c i (by simpa using hi); simpa using this
          · cases i with
            | zero=>rw [watN_cons,watN_zero]; exact h3
            | succ i=>rw [watN_cons]; exact d i (by simpa using hi)
        · omega
      · omega
    · omega
def psE (k:Ke) (ps:List Po):Int:=if keE k = 0 then (if ps.length<=20 then poE k.wa 0 ps else 8) else keE k
theorem psE_zero {k:Ke} {ps:List Po} (h:psE k ps = 0):KOk k∧POk k.wa ps:=by
  unfold psE at h
  split at h
  · rename_i h1
    have hk:=keE_zero h1
    split at h
    · rename_i h2
      obtain ⟨a,b,c,d⟩:=poE_zero h
      refine ⟨hk,h2,fun i hi=>(a i hi).1,fun i hi=>⟨(a i hi).2.1.1,(a i hi).2.1.2,(a i hi).2.2.1⟩,fun i hi=>(a i hi).2.2.2,c,fun i hi=>?_⟩
      cases i with
      | zero=>rw [watN_zero]; exact ⟨hk.wa,hk.wa'⟩
      | succ i=>exact d i hi
    · omega
  · rename_i h1; exact absurd h h1
end Go.Proofs.Ytglkphjjinmgmaa
