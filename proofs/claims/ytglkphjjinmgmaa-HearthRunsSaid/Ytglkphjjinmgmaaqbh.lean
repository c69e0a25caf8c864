/- Lists of fires,kettles and pours. -/
import Derived.Test.Ytglkphjjinmgmaaq7h
import Derived.Test.YtglkphjjinmgmaaM5h
import Derived.Test.YtglkphjjinmgmaaM4h
set_option linter.unusedVariables false
set_option linter.unusedSimpArgs false
namespace Go.Proofs.Ytglkphjjinmgmaa
open Go.AI
theorem unFs:Try.prog.underlying 42 = some (.slice 25):=by kernel_rfl
theorem unKs:Try.prog.underlying 43 = some (.slice 29):=by kernel_rfl
theorem unPs:Try.prog.underlying 45 = some (.slice 30):=by kernel_rfl
theorem szPs:sizeB Try.prog 30 = some 1:=by kernel_rfl
theorem onePs:oneBB Try.prog 30 = some (.slice none 0 0,24):=by kernel_rfl
theorem bu3F {H:Heap} {x1 y1 x2 y2 x3 y3:Option Addr} {n1 m1 n2 m2 n3 m3 c1 d1 c2 d2 c3 d3:Nat}:abuildSlice Try.prog H 42 3 [(0,Fv (.slice x1 n1 c1) (.slice y1 m1 d1)),(1,Fv (.slice x2 n2 c2) (.slice y2 m2 d2)),(2,Fv (.slice x3 n3 c3) (.slice y3 m3 d3))] =
    some (.slice (some ⟨H.n,0,none⟩) 3 0,H.new (.cells [.slice x1 n1 c1,.slice y1 m1 d1,.slice x2 n2 c2,.slice y2 m2 d2,.slice x3 n3 c3,.slice y3 m3 d3] 25 2),H.n):=by kernel_rfl
theorem buFires {H:Heap} {X1 X2 X3 X4 X5 X6:Heap} {s1 s2 s3 s4 s5 s6:Nat} {r1 r2 r3 r4 r5 r6:List (List Value)} {a b c d e f:Value} (h1:RowS s1 X1 a r1) (h2:RowS s2 X2 b r2) (h3:RowS s3 X3 c r3) (h4:RowS s4 X4 d r4) (h5:RowS s5 X5 e r5) (h6:RowS s6 X6 f r6) :
    abuildSlice Try.prog H 42 3 [(0,Fv a b),(1,Fv c d),(2,Fv e f)] = some (.slice (some ⟨H.n,0,none⟩) 3 0,H.new (.cells [a,b,c,d,e,f] 25 2),H.n):=by
  obtain ⟨_,_,_,rfl⟩:=RowS.isl h1
  obtain ⟨_,_,_,rfl⟩:=RowS.isl h2
  obtain ⟨_,_,_,rfl⟩:=RowS.isl h3
  obtain ⟨_,_,_,rfl⟩:=RowS.isl h4
  obtain ⟨_,_,_,rfl⟩:=RowS.isl h5
  obtain ⟨_,_,_,rfl⟩:=RowS.isl h6
  exact bu3F
theorem bu3K {H:Heap} {p q r:Ke}:abuildSlice Try.prog H 43 3 [(0,Kev p),(1,Kev q),(2,Kev r)] =
    some (.slice (some ⟨H.n,0,none⟩) 3 0,H.new (.cells (Kel p ++ Kel q ++ Kel r) 29 2),H.n):=by kernel_rfl
theorem bu3P {H:Heap} {x y z:Value} (hx:AI.oneC x = true) (hy:AI.oneC y = true) (hz:AI.oneC z = true):abuildSlice Try.prog H 45 3 [(0,x),(1,y),(2,z)] = some (.slice (some ⟨H.n,0,none⟩) 3 0,H.new (.cells [x,y,z] 30 2),H.n) :=
  build_vals [x,y,z] unPs onePs (by simp [hx,hy,hz]) (by simp)
theorem rows3 {s:Nat} {H H':Heap} {e:TypeId} {a b c:List Value} (hs:H.new (.cells (a ++ b ++ c) e 2) = H') (ha:a.length = s) (hb:b.length = s) (hc:c.length = s):RowS s H' (.slice (some ⟨H.n,0,none⟩) 3 0) [a,b,c]:=by
  have hfl:[a,b,c].flatten = a ++ b ++ c:=by simp
  have hr:∀ r ∈ [a,b,c],r.length = s:=fun r hr=>by
    simp only [List.mem_cons,List.not_mem_nil,or_false] at hr
    rcases hr with rfl | rfl | rfl<;>assumption
  refine ⟨hr,.inr (.inr ⟨H.n,0,0,_,_,2,rfl,by have:=new_n hs; omega,new_get hs,by decide,?_,?_⟩)⟩
  · show 0 + 3 * s<=_
    simp only [List.length_append]; omega
  · intro j q r w hj hq
    rw [<- hfl,Nat.zero_add]
    exact flat_at hr hj hq
theorem fvS_same {e e':TypeId} {s s':Nat} {H H':Heap} {u v:Value} {us vs:List (List Value)} {B B':Nat} (h1:OwnS e s H u us B) (h2:OwnS e' s' H' v vs B'):sameFix (Fv u v) (Fv u v) = true:=by
  rcases h1.2 with ⟨rfl,_⟩ | ⟨b,rfl,_⟩<;>rcases h2.2 with ⟨rfl,_⟩ | ⟨c,rfl,_⟩<;>simp [sameFix,sameFixL,sameFix1]
end Go.Proofs.Ytglkphjjinmgmaa
