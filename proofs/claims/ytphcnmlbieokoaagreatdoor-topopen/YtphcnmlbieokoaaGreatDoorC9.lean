import Derived.Test.YtphcnmlbieokoaaGreatDoorC8
import Derived.Laws.Concat
import Derived.Deep.CutBlock
set_option maxRecDepth 100000
set_option maxHeartbeats 16000000
set_option linter.unusedVariables false
set_option linter.unusedSimpArgs false
namespace Go.Proofs.YtphcnmlbieokoaaGreatDoor.S
open Go.Lib List
theorem vQ:∀a b:List UInt8,compareBytes b a = - compareBytes a b
 |[],[]=>rfl
 |[],_::_=>rfl
 |_::_,[]=>rfl
 |x::a,y::b=>by
  unfold compareBytes
  by_cases h1:x<y
  ·have h2:¬y<x:=by rw[UInt8.lt_iff_toNat_lt]at *;omega
   rw[if_neg h2,if_pos h1,if_pos h1];decide
  ·by_cases h2:y<x
   ·rw[if_pos h2,if_neg h1,if_pos h2]
   ·rw[if_neg h2,if_neg h1,if_neg h1,if_neg h2];exact vQ a b
theorem so:∀a b:List UInt8,compareBytes a b=0↔a=b
 |[],[]=>by simp[compareBytes]
 |[],_::_=>by simp[compareBytes]
 |_::_,[]=>by simp[compareBytes]
 |x::a,y::b=>by
  unfold compareBytes
  by_cases h1:x<y
  ·rw[if_pos h1];simp only[List.cons.injEq]
   constructor
   ·intro h;omega
   ·rintro⟨rfl,_⟩;rw[UInt8.lt_iff_toNat_lt]at h1;omega
  ·rw[if_neg h1]
   by_cases h2:y<x
   ·rw[if_pos h2];simp only[List.cons.injEq]
    constructor
    ·intro h;omega
    ·rintro⟨rfl,_⟩;rw[UInt8.lt_iff_toNat_lt]at h2;omega
   ·rw[if_neg h2,so a b]
    have e:x=y:=by rw[UInt8.lt_iff_toNat_lt]at h1 h2;exact UInt8.toNat_inj.1 (by omega)
    simp[e]
theorem pK:∀a b c:List UInt8,compareBytes a b<0->compareBytes b c<0->compareBytes a c<0
 |[],[],_,h,_=>by simp[compareBytes]at h
 |_::_,[],_,h,_=>by simp[compareBytes]at h
 |_,_::_,[],_,h=>by simp[compareBytes]at h
 |[],_::_,_::_,_,_=>by simp[compareBytes]
 |x::a,y::b,z::c,h1,h2=>by
  unfold compareBytes at h1 h2 ⊢;simp only[UInt8.lt_iff_toNat_lt]at h1 h2 ⊢;have ih:=pK a b c
  repeat' split at h1
  all_goals repeat' split at h2
  all_goals repeat' split
  all_goals first|omega|(exact ih h1 h2)
def jP (a b:ByteArray):Int:=compareBytes a.data.toList b.data.toList
def dR (a b:ByteArray):Prop:=jP a b<0
theorem pM (a b:ByteArray):jP b a = - jP a b:=vQ _ _
theorem gd (a b:ByteArray):jP a b=0↔a=b:=by
 unfold jP;rw[so]
 constructor
 ·intro h
  cases a;cases b
  simp only at h
  congr 1
  exact Array.toList_inj.1 h
 ·rintro rfl;rfl
theorem eZ {a b c:ByteArray} (h:dR a b) (k:dR b c):dR a c:=pK _ _ _ h k
theorem eH (a:ByteArray):¬dR a a:=by
 unfold dR;rw[(gd a a).2 rfl];decide
theorem jC {a b:ByteArray} (h:dR a b):¬dR b a:=fun k=>eH a (eZ h k)
theorem fL {a b:ByteArray} (h:dR a b):a≠b:=fun e=>eH a (by rw[<-e]at h;exact h)
theorem mH (a b:ByteArray):dR a b∨a=b∨dR b a:=by
 unfold dR;rw[pM a b,<-gd a b];omega
instance (a b:ByteArray):Decidable (dR a b):=inferInstanceAs (Decidable (jP a b<0))
def bf (l:List bn):Prop:=l.Pairwise fun a b=>dR a.az b.az
def da:List bn->bn->List bn
 |[],it=>[it]
 |x::xs,it=>if dR it.az x.az then it::x::xs else if x.az=it.az then it::xs else x::da xs it
theorem kM {it:bn}:∀(a m:List bn),(∀i∈a,dR i.az it.az)->da (a++m) it=a++da m it
 |[],_,_=>rfl
 |x::a,m,h=>by have h1:=h x (by simp);simp only[cons_append,da];rw[if_neg (jC h1),if_neg (fL h1),kM a m (fun i hi=>h i (by simp[hi]))]
theorem mQ {it:bn}:∀(m c:List bn),(∀i∈c,dR it.az i.az)->da (m++c) it=da m it++c
 |[],[],_=>rfl
 |[],y::c,h=>by simp only[nil_append,da];rw[if_pos (h y (by simp))];rfl
 |x::m,c,h=>by
  simp only[cons_append,da]
  split
  ·rfl
  ·split
   ·rfl
   ·rw[mQ m c h];rfl
theorem zr {it:bn} (a c:List bn) (ha:∀i∈a,dR i.az it.az) (hc:∀i∈c,dR it.az i.az):da (a++c) it=a++it::c:=by
 rw[kM a c ha,show c=[]++c from rfl,mQ [] c hc];rfl
theorem sL {it x:bn} (a c:List bn) (ha:∀i∈a,dR i.az it.az) (hx:x.az=it.az):da (a++x::c) it=a++it::c:=by
 rw[kM a _ ha];simp only[da];rw[if_neg (by rw[hx];exact eH _),if_pos hx]
theorem rF {it y:bn}:∀(l:List bn),y∈da l it->y=it∨y∈l
 |[],h=>by simp[da]at h;exact .inl h
 |x::l,h=>by
  simp only[da]at h
  split at h
  ·exact mem_cons.1 h
  ·split at h
   ·exact(mem_cons.1 h).imp id (mem_cons_of_mem _)
   ·rcases mem_cons.1 h with h1|h1
    ·right;simp[h1]
    ·rcases rF l h1 with h2|h2
     ·exact .inl h2
     ·right;simp[h2]
theorem gk {it:bn}:∀{l:List bn},bf l->bf (da l it)
 |[],_=>by simp[da,bf]
 |x::l,h=>by
  have h0:=List.pairwise_cons.1 h;simp only[da]
  split
  ·rename_i h1
   refine List.pairwise_cons.2 ⟨fun y hy=>?_,h⟩
   rcases mem_cons.1 hy with h2|h2
   ·subst h2;exact h1
   ·exact eZ h1 (h0.1 y h2)
  ·split
   ·rename_i h1 h2
    exact List.pairwise_cons.2 ⟨fun y hy=>by rw[<-h2];exact h0.1 y hy,h0.2⟩
   ·rename_i h1 h2
    refine List.pairwise_cons.2 ⟨fun y hy=>?_,gk h0.2⟩
    rcases rF l hy with h3|h3
    ·subst h3
     rcases mH x.az y.az with h4|h4|h4
     ·exact h4
     ·exact absurd h4 h2
     ·exact absurd h4 h1
    ·exact h0.1 y h3
def dv (l:List bn) (az:ByteArray):List bn:=l.filter fun x=>!decide (x.az=az)
open Go.RowKit
def cellsOf (it:bn):List Value:=[.string it.az,.string it.val,.bool it.gone]
def flat (l:List bn):List Value:=l.flatMap cellsOf
theorem fF (x:bn) (l:List bn):flat (x::l)=.string x.az::.string x.val::.bool x.gone::flat l:=rfl
theorem eW (a b:List bn):flat (a++b)=flat a++flat b:=by simp[flat]
theorem dU (l:List bn):(flat l).length=l.length*3:=by
 induction l with
 |nil=>rfl
 |cons x l ih=>rw[fF];simp[ih];omega
theorem mT (l:List bn) (n:Nat):(flat l).take (n*3)=flat (l.take n):=by
 induction l generalizing n with
 |nil=>simp[flat]
 |cons x l ih=>
  cases n with
  |zero=>simp[flat]
  |succ n=>rw[show(n+1)*3=n*3+1+1+1 by omega];simp only[fF,take_succ_cons,ih]
theorem mU (l:List bn) (n:Nat):(flat l).drop (n*3)=flat (l.drop n):=by
 induction l generalizing n with
 |nil=>simp[flat]
 |cons x l ih=>
  cases n with
  |zero=>simp[flat]
  |succ n=>rw[show(n+1)*3=n*3+1+1+1 by omega];simp only[fF,drop_succ_cons,ih]
theorem flat_get (l:List bn) (i:Nat) (h:i<l.length):(flat l)[i*3]? = some (.string (l[i]).az)/\(flat l)[i*3+1]? = some (.string (l[i]).val)/\(flat l)[i*3+2]? = some (.bool (l[i]).gone):=by
 induction l generalizing i with
 |nil=>simp at h
 |cons x l ih=>
  cases i with
  |zero=>simp[fF]
  |succ i=>have:=ih i (by simpa using h);rw[show(i+1)*3=i*3+1+1+1 by omega];simp only[fF,getElem_cons_succ];simpa using this
theorem fM (l:List bn):∀u∈flat l,u.oneCell'=true:=by
 intro u hu;obtain⟨x,_,hx⟩:=List.mem_flatMap.1 hu;simp[cellsOf]at hx
 rcases hx with rfl|rfl|rfl<;>rfl
open Go.RowKit Go.Shelf Go.Proofs.Tryz
def Lp:Go.Shelf.Ren:=⟨fun | 106=>50 | 213=>94 | 265=>148|n=>n,fun | 9=>9 | 3=>3|n=>n,fun|n=>n⟩
theorem FG:Go.Proofs.Lays.n106 prog Lp:={
 mixed:=by kernel_rfl
 f106:=ad func50
 f213:=ad func94
 f265:=ad func148
 t3:=underlying3
 a3:=isAgg3
 z3:=sizeOf3
 v3:=zeroValue3
 t9:=underlying9
 a9:=isAgg9
 z9:=sizeOf9
 v9:=zeroValue9}
theorem lY (a b:ByteArray) (w:World):
 Calls prog 50 #[.string a,.string b] w fun e w'=>e=.returned (.int .i64 (jP a b))/\w'=w:=Any.strings_Compare FG a b w
theorem jQ (k n:ByteArray) (x:Bool) (az:ByteArray) (w:World):
 Calls prog 109 #[.agg #[.string k,.string n,.bool x],.string az] w fun e w'=>e=.returned (.int .i64 (jP k az))/\w'=w.alloc (.cells #[.string k,.string n,.bool x] 86):=by
 have h1:=fun wx=>lY k az wx
 go_enter func109,ntmps109
 go_wp2_with (go_at_call 50;refine(h1 _).mono ?_;rintro e wx ⟨rfl,rfl⟩)
 go_ret;exact⟨rfl,rfl⟩
def Found (aQ:List bn) (az:ByteArray) (at':Nat) (qv:Bool):Prop:=
 at'<=aQ.length/\(∀x∈aQ.take at',dR x.az az)/\((qv=true/\∃x,aQ[at']? = some x/\x.az=az)∨(qv=false/\∀x∈aQ.drop at',dR az x.az))
def zK (aQ:List bn) (az:ByteArray) (w:World) (e:Ending) (w':World):Prop:=∃(at':Nat) (qv:Bool),e=.returned (.tuple #[.int .i64 at',.bool qv])/\Found aQ az at' qv/\Below w.heap.size w w'
theorem qh (au:Nat) (v:Value) (aQ:List bn) (az:ByteArray) (w:World) (ho:w.ownsRow au 86 3 v aQ.length (flat aQ)) (hs:bf aQ) (hn:aQ.length<=100):
 Calls prog 108 #[v,.string az,.func (.func 109) #[] #[]] w fun e w'=>zK aQ az w e w':=by
 obtain⟨N,hN⟩:=aa aQ.length;rw[hN]at hn ho
 rcases ho.2 with⟨rfl,rfl⟩|⟨g,aU,cur,rfl,hr⟩
 ·have HN:=aq hN;clear ho hN;have HS:=aq hs;clear hs;go_enter func108,ntmps108;go_wp2_with fail
  go_loopg [9,10] 1 (fun k i j wr=>i=.int .i64 0/\j=.int .i64 0/\wr=w)
  case atStart=>exact⟨rfl,rfl,rfl⟩
  case round=>obtain⟨rfl,rfl,rfl⟩:=hrel;go_wp2_with fail;go_ret2;exact⟨0,false,rfl,⟨by omega,by simp,.inr ⟨rfl,by have:=an HN;rw[List.length_eq_zero_iff.1 this];simp⟩⟩,Below.refl _ _⟩
 ·have hc:∀j,j<N->∃k n x,aQ[j]? = some ⟨k,n,x⟩/\w.cell? ⟨g,j*3,none⟩=some (.string k)/\w.cell? ⟨g,j*3+1,none⟩=some (.string n)/\w.cell? ⟨g,j*3+2,none⟩=some (.bool x):=by
   intro j hj;have h1:=flat_get aQ j (by omega);refine⟨(aQ[j]'(by omega)).az,(aQ[j]'(by omega)).val,(aQ[j]'(by omega)).gone,getElem?_eq_getElem (by omega),?_,?_,?_⟩
   ·rw[ho.cellAt (j*3) (by omega)];exact h1.1
   ·rw[ho.cellAt (j*3+1) (by omega)];exact h1.2.1
   ·rw[ho.cellAt (j*3+2) (by omega)];exact h1.2.2
  have hg:g<w.heap.size:=(Array.getElem?_eq_some_iff.1 hr.2.1).1;have HN:=aq hN;have HC:=aq hc;have HS:=aq hs;have HO:=aq ho;clear ho hN hs hc hr;go_enter func108,ntmps108;go_wp2_with fail
  go_loopg [9,10] (N+1) (fun k vi vj wr=>∃i j:Nat,j-i<=k/\i<=j/\j<=N/\vi=.int .i64 i/\vj=.int .i64 j/\Hid ((∀t x,t<i->aQ[t]? = some x->dR x.az az)/\(∀t x,j<=t->aQ[t]? = some x->¬dR x.az az))/\Hid (Below w.heap.size w wr))
  case atStart=>exact⟨0,N,by omega,by omega,by omega,rfl,rfl,⟨fun t x ht=>by omega,fun t x ht hx=>by have:=an HN;have:=(List.getElem?_eq_some_iff.1 hx).1;omega⟩,Below.refl _ _⟩
  case round=>
   obtain⟨i,j,hk,hij,hjN,rfl,rfl,HF,HB⟩:=hrel
   by_cases eO:i<j
   ·have RF:(i:Int)<(j:Int):=by omega
    obtain⟨c,hc⟩:∃c,c=(i+j) / 2:=⟨_,rfl⟩;have kE:i<=c:=by omega
    have OG:c<j:=by omega
    have zc:((i:Int)+(j:Int)) / 2=(c:Int):=by omega
    have hcN:(c:Int)<(N:Int):=by omega
    obtain⟨kk,nn,xx,hx,q1,q2,q3⟩:=an HC c (by omega);have bw:=an HB;have c1:=(bw.cell (p:=⟨g,c*3,none⟩) hg).trans q1;have c2:=(bw.cell (p:=⟨g,c*3+1,none⟩) hg).trans q2;have c3:=(bw.cell (p:=⟨g,c*3+2,none⟩) hg).trans q3;have tL:=fun wx=>jQ kk nn xx az wx
    have Hx:=aq hx;clear hx hc q1 q2 q3 bw;have Hd:Hid (∀z,z=jP kk az->(z<0->dR kk az)/\(¬z<0->¬dR kk az)):=by rintro z rfl;exact⟨fun h=>h,fun h=>h⟩
    obtain⟨z,hz⟩:∃z,z=jP kk az:=⟨_,rfl⟩;rw[<-hz]at tL;have Hz:=aq hz;clear hz
    by_cases lv:z<0
    ·have hd0:decide (z<0)=true:=decide_eq_true lv
     go_wp2_with (go_at_call 109;refine(tL _).mono ?_;rintro e wx ⟨rfl,rfl⟩)
     go_roundg (j-(c+1))
     case measure=>omega
     case rel=>exact⟨c+1,j,by omega,by omega,by omega,by simp,rfl,⟨fun t x ht hx=>by
      have hF:=an HF;have hS:=an HS;have h1:dR kk az:=(an Hd z (an Hz)).1 lv
      rcases Nat.lt_or_ge t c with h2|h2
      ·have KY:=an Hx;obtain⟨XN,rfl⟩:=List.getElem?_eq_some_iff.1 hx;obtain⟨KX,hc2'⟩:=List.getElem?_eq_some_iff.1 KY;have:=pairwise_iff_getElem.1 hS t c XN KX h2;rw[hc2']at this;exact eZ this h1
      ·obtain rfl:t=c:=by omega
       rw[an Hx]at hx;simp at hx;subst hx;exact h1,(an HF).2⟩,(an HB).alloc (an HB).size _⟩
    ·have hd0:decide (z<0)=false:=decide_eq_false lv
     go_wp2_with (go_at_call 109;refine(tL _).mono ?_;rintro e wx ⟨rfl,rfl⟩)
     go_roundg (c-i)
     case measure=>omega
     case rel=>exact⟨i,c,by omega,by omega,by omega,rfl,rfl,⟨(an HF).1,fun t x ht hx KM=>by
      have hS:=an HS;have h1:¬dR kk az:=(an Hd z (an Hz)).2 lv
      rcases Nat.lt_or_ge c t with h2|h2
      ·have KY:=an Hx;obtain⟨XN,rfl⟩:=List.getElem?_eq_some_iff.1 hx;obtain⟨KX,hc2'⟩:=List.getElem?_eq_some_iff.1 KY;have:=pairwise_iff_getElem.1 hS c t KX XN h2;rw[hc2']at this;exact h1 (eZ this KM)
      ·obtain rfl:t=c:=by omega
       rw[an Hx]at hx;simp at hx;subst hx;exact h1 KM⟩,(an HB).alloc (an HB).size _⟩
   ·have RF:¬(i:Int)<(j:Int):=by omega
    obtain rfl:i=j:=by omega
    have A7:∀qv,(qv=true/\∃x,aQ[i]? = some x/\x.az=az)∨(qv=false/\∀x,aQ[i]? = some x->x.az≠az)->Found aQ az i qv:=by
     intro qv h;refine⟨by have:=an HN;omega,fun x hx=>?_,?_⟩
     ·obtain⟨t,ht,rfl⟩:=List.mem_iff_getElem.1 hx;rw[length_take]at ht;exact(an HF).1 t _ (by omega) (by rw[getElem?_eq_getElem (by omega),getElem_take])
     ·rcases h with h|⟨h1,h2⟩
      ·exact .inl h
      ·refine .inr ⟨h1,fun x hx=>?_⟩;obtain⟨t,ht,rfl⟩:=List.mem_iff_getElem.1 hx;rw[length_drop]at ht;rw[getElem_drop];have h3:=(an HF).2 (i+t) _ (by omega) (getElem?_eq_getElem (by omega))
       rcases mH (aQ[i+t]'(by omega)).az az with h4|h4|h4
       ·exact absurd h4 h3
       ·exfalso
        rcases Nat.eq_zero_or_pos t with h5|h5
        ·subst h5;exact h2 _ (getElem?_eq_getElem (by omega)) h4
        ·have h6:=pairwise_iff_getElem.1 (an HS) i (i+t) (by omega) (by omega) (by omega);rw[h4]at h6;exact(an HF).2 i _ (by omega) (getElem?_eq_getElem (by omega)) h6
       ·exact h4
    have HFo:=aq A7;clear A7
    by_cases hiN:i<N
    ·have mI:(i:Int)<(N:Int):=by omega
     obtain⟨kk,nn,xx,hx,q1,q2,q3⟩:=an HC i (by omega);have bw:=an HB;have c1:=(bw.cell (p:=⟨g,i*3,none⟩) hg).trans q1;have c2:=(bw.cell (p:=⟨g,i*3+1,none⟩) hg).trans q2;have c3:=(bw.cell (p:=⟨g,i*3+2,none⟩) hg).trans q3;have tL:=fun wx=>jQ kk nn xx az wx
     have Hx:=aq hx;clear hx q1 q2 q3 bw;obtain⟨z,hz⟩:∃z,z=jP kk az:=⟨_,rfl⟩;rw[<-hz]at tL;have Hz:=aq hz;clear hz
     go_wp2_with (go_at_call 109;refine(tL _).mono ?_;rintro e wx ⟨rfl,rfl⟩)
     go_ret2;refine⟨i,z==0,rfl,an HFo _ ?_,(an HB).alloc (an HB).size _⟩;have hz:=an Hz
     by_cases hz0:z=0
     ·left;refine⟨by simp[hz0],_,an Hx,?_⟩;exact(gd _ _).1 (by rw[<-hz,hz0])
     ·right;refine⟨by simp[hz0],fun x sS he=>?_⟩;rw[an Hx]at sS;simp at sS;subst sS;exact hz0 (by rw[hz];exact(gd _ _).2 he)
    ·have mI:¬(i:Int)<(N:Int):=by omega
     go_wp2_with fail
     go_ret2;refine⟨i,false,rfl,an HFo _ (.inr ⟨rfl,fun x sS=>?_⟩),an HB⟩;have:=(List.getElem?_eq_some_iff.1 sS).1;have:=an HN;omega
theorem cW {P:Program} (w:World) (dT sT ty elem:TypeId) (g o xz Lm:Nat) (a:Addr) (Ai Kg:Nat) (cur:Array Value) (t:TypeId) (cs:List Value) (k m:Nat)
 (hu:P.underlying dT=some (.slice elem)) (hs:∀w,(Go.sizeOf elem).run P w=.ok k w)
 (hg:w.heap[g]? = some (.cells cur t (0,0))) (hm:Nat.min Ai xz=m) (hn:cs.length=m*k)
 (vz:∀j v,cs[j]? = some v->w.cell? (a.add j)=some v) (fQ:o+cs.length<=cur.size) (h1:∀v∈cs,v.oneCell'=true):
 (Builtin.copy_ #[dT,sT] ty #[.slice (some ⟨g,o,none⟩) xz Lm,.slice (some a) Ai Kg]).run P w =
  .ok (goInt m) (w.setRow g (cur.toList.take o++cs++cur.toList.drop (o+cs.length)).toArray):=by
 have hl:=run_firstCells_some (P:=P) w k m a Ai Kg cs hn vz;have gz:=run_storeCells_at P g o t cs 0 cur w hg (by simpa using fQ) h1;simp[Builtin.copy_,run_underlying hu,Builtin.lenOf,hs,hm,hl,gz]
theorem kK {P:Program} (w:World) (t e ty:TypeId) (z:Value) (ht:P.underlying t=some (.slice e)) (hv:∀w,(zeroValue e).run P w=.ok z w) (g o n c:Nat) (cur:Array Value) (te:TypeId) (cs:List Value) (gZ:(Builtin.zeroCells z.cells n).toList=cs) (hn:0<n)
 (hg:w.heap[g]? = some (.cells cur te (0,0))) (fQ:o+cs.length<=cur.size) (h1:∀v∈cs,v.oneCell'=true):
 (Builtin.clear_ #[t] ty #[.slice (some ⟨g,o,none⟩) n c]).run P w=.ok (.tuple #[]) (w.setRow g (cur.toList.take o++cs++cur.toList.drop (o+cs.length)).toArray):=by
 have gz:=run_storeCells_at P g o te cs 0 cur w hg (by simpa using fQ) h1;obtain⟨n',rfl⟩:∃n',n=n'+1:=⟨n-1,by omega⟩;simp[Builtin.clear_,run_underlying ht,hv,gZ,gz]
theorem dB {w:World} {g:Nat} {cur:Array Value} {t:TypeId} (hg:w.heap[g]? = some (.cells cur t (0,0))) {xs:List Value} {n:Nat} (hx:cur.toList.take n=xs) {j:Nat} {u:Value} (h:xs[j]? = some u):w.cell? ⟨g,j,none⟩=some u:=by
 rw[cell_of_row w g j cur t (0,0) hg];rw[<-hx,getElem?_take]at h
 split at h
 ·simpa using h
 ·cases h
def df (cur xs:List Value) (a b:Nat):List Value:=cur.take b++xs.drop a++cur.drop (b+(xs.drop a).length)
def dM (r aV:List Value) (a:Nat):List Value:=r.take a++aV++r.drop (a+aV.length)
theorem sG (cur xs aV:List Value) (a N k:Nat) (hx:cur.take N=xs) (ha:a<=N) (hl:aV.length=k) (hc:N+k<=cur.length):
 (df cur xs a (a+k)).length=cur.length/\(dM (df cur xs a (a+k)) aV a).length=cur.length/\(dM (df cur xs a (a+k)) aV a).take (N+k)=xs.take a++aV++xs.drop a:=by
 have jL:xs.length=N:=by rw[<-hx,length_take];omega
 have hd:(xs.drop a).length=N-a:=by rw[length_drop,jL]
 have l1:(df cur xs a (a+k)).length=cur.length:=by unfold df;simp only[length_append,length_take,length_drop,jL];omega
 have l2:(dM (df cur xs a (a+k)) aV a).length=cur.length:=by unfold dM;simp only[length_append,length_take,length_drop,l1,hl];omega
 refine⟨l1,l2,?_⟩
 have e1:(df cur xs a (a+k)).take a=xs.take a:=by unfold df;rw[append_assoc,take_append_of_le_length (by rw[length_take];omega),take_take,<-hx,take_take];congr 1;omega
 have e2:(df cur xs a (a+k)).drop (a+k)=xs.drop a++cur.drop (N+k):=by unfold df;rw[append_assoc,drop_append_of_le_length (by rw[length_take];omega),drop_eq_nil_of_le (by rw[length_take];omega),nil_append,hd];congr 2;omega
 unfold dM;rw[e1,hl,e2,<-append_assoc,take_append_of_le_length (by simp only[length_append,length_take,hd,hl,jL];omega),take_of_length_le (by simp only[length_append,length_take,hd,hl,jL];omega)]
theorem vI (R xs aV tail:List Value) (a N k:Nat) (jL:xs.length=N) (ha:a<=N) (hl:aV.length=k) (hR:R.length=N+k-a+tail.length):
 (dM (xs.take a++R) aV a).length=N+k+tail.length/\(df (dM (xs.take a++R) aV a) xs a (a+k)).length=N+k+tail.length/\
  (df (dM (xs.take a++R) aV a) xs a (a+k)).take (N+k)=xs.take a++aV++xs.drop a:=by
 have h0:(xs.take a).length=a:=by rw[length_take];omega
 have hd:(xs.drop a).length=N-a:=by rw[length_drop,jL]
 have e0:(xs.take a++R).take a=xs.take a:=by rw[take_append_of_le_length (by omega),take_take];congr 1;omega
 have l1:(dM (xs.take a++R) aV a).length=N+k+tail.length:=by unfold dM;simp only[length_append,length_take,length_drop,hl,hR,jL];omega
 have e1:(dM (xs.take a++R) aV a).take (a+k)=xs.take a++aV:=by unfold dM;rw[e0,take_append_of_le_length (by rw[length_append,h0,hl];omega),take_of_length_le (by rw[length_append,h0,hl];omega)]
 refine⟨l1,?_,?_⟩
 ·unfold df;simp only[length_append,length_take,length_drop,l1,jL];omega
 ·unfold df;rw[e1,take_append_of_le_length (by simp only[length_append,h0,hd,hl];omega),take_of_length_le (by simp only[length_append,h0,hd,hl];omega)]
theorem oG:prog.follows Departure.mixedOrders=true:=by kernel_rfl
theorem EH:(prog.info? 86).map (fun i=>(i.zero,i.size,i.bytes))=some (some (.agg #[.string ⟨#[]⟩,.string ⟨#[]⟩,.bool false]),3,40):=by kernel_rfl
def de (au:Nat) (e:TypeId) (k:Nat) (v:Value) (n:Nat) (ys:List Value) (w:World) (en:Ending) (w':World):Prop:=
 ∃v',en=.returned v'/\w'.ownsRow au e k v' n ys/\w.grownBy w' v.ownBlock/\(v'.ownBlock=v.ownBlock∨∃x,v'.ownBlock=some x/\w.heap.size<=x)
def wk (au:Nat) (e:TypeId) (k n:Nat) (ys:List Value) (w:World) (en:Ending) (w':World):Prop:=
 ∃v',en=.returned v'/\w'.ownsRow au e k v' n ys/\(∃x,v'.ownBlock=some x/\w.heap.size<=x)/\Below w.heap.size w w'
theorem gp {w:World} {au Ju:Nat} {e:TypeId} {k:Nat} {v:Value} {n:Nat} {xs:List Value} (h:w.ownsRow au e k v n xs) (hb:Ju<=au):w.ownsRow Ju e k v n xs:=by
 refine⟨h.1,?_⟩
 rcases h.2 with h2|⟨g,aU,cur,hv,hg,r⟩
 ·exact .inl h2
 ·exact .inr ⟨g,aU,cur,hv,Nat.le_trans hb hg,r⟩
theorem rR (au:Nat) (v:Value) (n:Nat) (xs aV:List Value) (vb vc:Nat) (w:World) (ho:w.ownsRow au 86 3 v n xs) (hn:n<=100) (hb:au<=w.heap.size)
 (hv:w.heap[vb]? = some (.cells aV.toArray 86 (0,0))) (hl:aV.length=1*3) (h1:∀u∈aV,u.oneCell'=true):
 Calls prog 111 #[v,.int .i64 n,.slice (some ⟨vb,0,none⟩) 1 vc] w fun e w'=>de au 86 3 v (n+1) (xs++aV) w e w':=by
 obtain⟨i0,hi,hz0,fE,fD⟩:=info_parts EH
 have hc:∀j u,aV[j]? = some u->w.cell? ((⟨vb,0,none⟩:Addr).add j)=some u:=fun j u hj=>by rw[Addr.add_lit,Nat.zero_add];exact dB hv (n:=aV.length) (by simp) hj
 have HO:=aq ho;have HC:=aq hc;have HL:=aq hl;have H1:=aq h1;have HB:=aq hb
 rcases ho.2 with⟨rfl,rfl⟩|⟨g,aU,cur,rfl,_,_,uC,lJ,_⟩
 ·clear ho hc hl h1 hv hb;go_enter func111,ntmps111
  go_wp2_with (at_builtin;refine wpList_append_own_at _ rfl _ _ 38 rfl au 86 i0 (.agg #[.string ⟨#[]⟩,.string ⟨#[]⟩,.bool false]) 3 40 underlying38 hi hz0 fE fD rfl (by decide) _ _ _ rfl (an HO) ⟨vb,0,none⟩ 1 vc aV rfl (an HL) (an HC) (an H1) (by unfold maxLen;omega) (by omega) (an HB) ?_;intro v4 w4 dS cr ig gQ)
  have Ho:=aq dS;have Hg:=aq cr;have Ha:=aq gQ;clear dS cr ig gQ;go_wp2_with fail;go_ret;exact⟨v4,rfl,an Ho,an Hg,by rcases an Ha with h|h;exact .inl h;exact .inr ⟨_,h,Nat.le_refl _⟩⟩
 ·unfold maxLen at lJ;clear ho hc hl h1 hv hb;go_enter func111,ntmps111
  go_wp2_with (at_builtin;refine wpList_append_own_at _ rfl _ _ 38 rfl au 86 i0 (.agg #[.string ⟨#[]⟩,.string ⟨#[]⟩,.bool false]) 3 40 underlying38 hi hz0 fE fD rfl (by decide) _ _ _ rfl (an HO) ⟨vb,0,none⟩ 1 vc aV rfl (an HL) (an HC) (an H1) (by unfold maxLen;omega) (by omega) (an HB) ?_;intro v4 w4 dS cr ig gQ)
  all_goals
   have Ho:=aq dS;have Hg:=aq cr;have Ha:=aq gQ;clear dS cr ig gQ;go_wp2_with fail;go_ret;exact⟨v4,rfl,an Ho,an Hg,by rcases an Ha with h|h;exact .inl h;exact .inr ⟨_,h,Nat.le_refl _⟩⟩
theorem oJ (au:Nat) (g aU:Nat) (cur:Array Value) (n i:Nat) (xs aV:List Value) (vb vc:Nat) (w:World) (hi:i<n) (hn:n<=100) (hg:w.heap[g]? = some (.cells cur 86 (0,0))) (vH:au<=g) (kT:n+1<=aU) (lJ:aU<=maxLen) (gZ:cur.size=aU*3) (hx:cur.toList.take (n*3)=xs) (me:∀u∈xs,u.oneCell'=true)
 (hv:w.heap[vb]? = some (.cells aV.toArray 86 (0,0))) (hl:aV.length=1*3) (h1:∀u∈aV,u.oneCell'=true) (dr:vb≠g):
 Calls prog 111 #[.slice (some ⟨g,0,none⟩) n aU,.int .i64 i,.slice (some ⟨vb,0,none⟩) 1 vc] w fun e w'=>de au 86 3 (.slice (some ⟨g,0,none⟩) n aU) (n+1) (xs.take (i*3)++aV++xs.drop (i*3)) w e w':=by
 have gX:∀lb cb,(callFunc 163 #[.slice (some ⟨vb,0,none⟩) 1 vc,.slice (some ⟨g,(i+1)*3,none⟩) lb cb]).run prog w=.ok (.value (.bool false)) w:=fun lb cb=>by
  rw[run_callFunc_extern func163 (by kernel_rfl) (by kernel_rfl) (by kernel_rfl) (e:=Extern.SlicesOverlaps.overlaps #[38,38] #[4]) (by kernel_rfl),
   Lib.run_overlaps_apart w 38 4 86 underlying38 3 sizeOf86 ⟨vb,0,none⟩ ⟨g,(i+1)*3,none⟩ 1 vc lb cb dr 86 86 aV.toArray.size cur.size (by simp[World.shape?,hv]) (by simp[World.shape?,hg]) (by omega) (by simp[World.frozen?,hv]) (by simp[World.frozen?,hv])]
  rfl
 have jL:xs.length=n*3:=by rw[<-hx,length_take,Array.length_toList];omega
 have mS:(xs.drop (i*3)).length=(n-i)*3:=by rw[length_drop,jL];try omega
 obtain⟨r1,lu⟩:∃r1,r1=df cur.toList xs (i*3) ((i+1)*3):=⟨_,rfl⟩;obtain⟨r2,kC⟩:∃r2,r2=dM r1 aV (i*3):=⟨_,rfl⟩;have IG:=sG cur.toList xs aV (i*3) (n*3) 3 hx (by omega) (by omega) (by rw[Array.length_toList];omega);rw[show i*3+3=(i+1)*3 by omega,<-lu,<-kC]at IG;obtain⟨q1,q2,q3⟩:=IG
 have CD:∀ty dc sc,(Builtin.copy_ #[38,38] ty #[.slice (some ⟨g,(i+1)*3,none⟩) (n+1-(i+1)) dc,.slice (some ⟨g,i*3,none⟩) (n+1-i) sc]).run prog w.drew=.ok (goInt ↑(n-i)) (w.drew.setRow g r1.toArray):=fun ty dc sc=>by
  rw[cW w.drew 38 38 ty 86 g ((i+1)*3) (n+1-(i+1)) dc ⟨g,i*3,none⟩ (n+1-i) sc cur 86 (xs.drop (i*3)) 3 (n-i) underlying38 sizeOf86 hg (by simp only[Nat.min_def];split<;>omega) (by omega)
   (fun j u hj=>by rw[Addr.add_lit];exact dB (w:=w.drew) hg hx (by rwa [getElem?_drop]at hj)) (by rw[mS,gZ];omega) (fun u hu=>me u (mem_of_mem_drop hu)),lu]
  rfl
 have oP:(w.drew.setRow g r1.toArray).heap[g]? = some (.cells r1.toArray 86 (0,0)):=setRow_heap w.drew g cur _ 86 _ hg;have mv:(w.drew.setRow g r1.toArray).heap[vb]? = some (.cells aV.toArray 86 (0,0)):=(setRow_other w.drew g vb _ dr).trans hv
 have IZ:∀ty dc,(Builtin.copy_ #[38,38] ty #[.slice (some ⟨g,i*3,none⟩) (n+1-i) dc,.slice (some ⟨vb,0,none⟩) 1 vc]).run prog (w.drew.setRow g r1.toArray)=.ok (goInt ↑(1:Nat)) (w.drew.setRow g r2.toArray):=fun ty dc=>by
  rw[cW (w.drew.setRow g r1.toArray) 38 38 ty 86 g (i*3) (n+1-i) dc ⟨vb,0,none⟩ 1 vc r1.toArray 86 aV 3 1 underlying38 sizeOf86 oP (by simp only[Nat.min_def];split<;>omega) (by omega)
   (fun j u hj=>by rw[Addr.add_lit,Nat.zero_add];exact dB mv (n:=aV.length) (by simp) hj) (by simp only[size_toArray,q1,Array.length_toList];omega) h1,setRow_setRow,kC]
  rfl
 obtain⟨W1,tu⟩:∃W1,W1=w.drew.setRow g r1.toArray:=⟨_,rfl⟩;obtain⟨W2,hW2⟩:∃W2,W2=w.drew.setRow g r2.toArray:=⟨_,rfl⟩;rw[<-tu]at CD;rw[<-tu,<-hW2]at IZ
 have j9:∀v',v'=.slice (some ⟨g,0,none⟩) (n+1) aU->de au 86 3 (.slice (some ⟨g,0,none⟩) n aU) (n+1) (xs.take (i*3)++aV++xs.drop (i*3)) w (.returned v') W2:=by rintro v' rfl;refine⟨_,rfl,⟨by rw[<-q3,length_take,q2,Array.length_toList];omega,.inr ⟨g,aU,r2.toArray,rfl,vH,by rw[hW2];exact setRow_heap w.drew g cur _ 86 _ hg,kT,lJ,by simp[q2,gZ],by rw[show(n+1)*3=n*3+3 by omega];exact q3⟩⟩,⟨by rw[hW2];rfl,by rw[hW2];rfl,by rw[hW2];rfl,by rw[hW2];simp,fun x hx pF=>by rw[hW2];exact setRow_other w.drew g x _ (fun e=>pF (by rw[e];rfl))⟩,.inl rfl⟩
 have Hf:=aq j9;have RY:aU<=9223372036854775807:=by unfold maxLen at lJ;omega
 have fE:¬((i:Int)=(n:Int)):=by omega
 have gY:i<=n:=by omega
 have cC:¬(aU=i+1):=by omega
 have iU:¬(aU=i):=by omega
 have hQ:(i:Int)<=(n:Int)+1:=by omega
 have iD:IntKind.i64.wrap ((i:Int)+1)=(i:Int)+1:=by rw[IntKind.wrap_i64];omega
 have dJ:(0:Int)<=(i:Int)+1:=by omega
 have UO:((i:Int)+1).toNat=i+1:=by omega
 clear j9 q1 q2 q3 lu kC tu hW2 oP mv hg hv hl h1 hx me gZ jL mS lJ;go_enter func111,ntmps111
 go_wp2_with (simp only[gX])
 have mixed:=oG
 go_region_law_o (refine step_copy_runI rfl _ _ 38 38 rfl (.slice (some ⟨g,(i+1)*3,none⟩) (n+1-(i+1)) (aU-(i+1))) (.slice (some ⟨g,i*3,none⟩) (n+1-i) (aU-i)) (by simp[Act.eval,Act.put]) (by simp[Act.eval,Act.put]) (CD _ _ _) ?_)
 go_wp2_with (at_builtin;refine wpList_copy_runI _ rfl _ _ 38 38 rfl _ _ rfl rfl (IZ _ _) ?_)
 go_ret;exact an Hf _ rfl
theorem qx (au:Nat) (g aU:Nat) (cur:Array Value) (n i:Nat) (xs aV:List Value) (vb vc:Nat) (w:World) (hi:i<n) (hn:n<=100) (hb:au<=w.heap.size) (hg:w.heap[g]? = some (.cells cur 86 (0,0))) (uC:n<=aU) (kT:aU<n+1) (hx:cur.toList.take (n*3)=xs) (jL:xs.length=n*3) (me:∀u∈xs,u.oneCell'=true)
 (hv:w.heap[vb]? = some (.cells aV.toArray 86 (0,0))) (hl:aV.length=1*3) (h1:∀u∈aV,u.oneCell'=true):
 Calls prog 111 #[.slice (some ⟨g,0,none⟩) n aU,.int .i64 i,.slice (some ⟨vb,0,none⟩) 1 vc] w fun e w'=>de au 86 3 (.slice (some ⟨g,0,none⟩) n aU) (n+1) (xs.take (i*3)++aV++xs.drop (i*3)) w e w':=by
 obtain⟨i0,Dv,hz0,fE,fD⟩:=info_parts EH;have WC:g<w.heap.size:=(Array.getElem?_eq_some_iff.1 hg).1;have Gq:vb<w.heap.size:=(Array.getElem?_eq_some_iff.1 hv).1;have nS:(n:Int)+1-(i:Int)=((n+1-i:Nat):Int):=by omega
 have Dt:i+(n+1-i)=n+1:=by omega
 have hold:(Builtin.firstCells i0.size i (.slice (some ⟨g,0,none⟩) i aU)).run prog w.drew=.ok (xs.take (i*3)).toArray w.drew:=by
  rw[fE]
  exact run_firstCells_some w.drew 3 i ⟨g,0,none⟩ i aU (xs.take (i*3)) (by rw[length_take];omega) (fun j u hj=>by
   rw[Addr.add_lit,Nat.zero_add];rw[getElem?_take]at hj
   split at hj
   ·exact dB (w:=w.drew) hg hx hj
   ·cases hj)
 obtain⟨G,hG⟩:∃G,G=grownCap w (n+1) aU 86:=⟨_,rfl⟩;have Sb:n+1<=G:=by rw[hG];exact grownCap_ge w _ _ _
 have Be:G<=maxLen:=by rw[hG];exact grownCap_le_maxLen w (n+1) aU 86 (by unfold maxLen;omega)
 obtain⟨R,hR⟩:∃R:List Value,R=(Builtin.zeroCells (Value.cells (.agg #[.string ⟨#[]⟩,.string ⟨#[]⟩,.bool false])) (n+1-i)++Builtin.zeroCells (Value.cells (.agg #[.string ⟨#[]⟩,.string ⟨#[]⟩,.bool false])) (G-(n+1))).toList:=⟨_,rfl⟩
 have J2:R.length=n*3+3-i*3+(G-(n+1))*3:=by
  rw[hR];simp[size_zeroCells,Value.cells]
  try omega
 have UQ:∀ty,(Builtin.append_ #[38,3] ty #[.slice (some ⟨g,0,none⟩) i aU,.int .i64 ((n:Int)+1-(i:Int))]).run prog w =
  .ok (.slice (some ⟨w.heap.size,0,none⟩) (n+1) G) (w.drew.alloc (.cells (xs.take (i*3)++R).toArray 86)):=fun ty=>by
  have h:=Lib.run_append_grow_zeros w 38 3 ty 86 i0 _ .i64 .i64 underlying38 underlying3 Dv hz0 (some ⟨g,0,none⟩) i aU (xs.take (i*3)) hold (n+1-i) (by omega) (by omega) (by omega) (by omega) (by rw[fD];omega) (by rw[fD,Dt];exact growslice_fits kT (by omega));rw[Dt,<-hG]at h;rw[nS,h,hR]
  congr 3
  apply Array.toList_inj.1;simp
 obtain⟨r1,lu⟩:∃r1,r1=dM (xs.take (i*3)++R) aV (i*3):=⟨_,rfl⟩;obtain⟨r2,kC⟩:∃r2,r2=df r1 xs (i*3) ((i+1)*3):=⟨_,rfl⟩;have IG:=vI R xs aV (List.replicate ((G-(n+1))*3) default) (i*3) (n*3) 3 jL (by omega) (by omega) (by rw[length_replicate];omega);rw[show i*3+3=(i+1)*3 by omega,<-lu,<-kC,length_replicate]at IG;obtain⟨q1,q2,q3⟩:=IG;have mS:(xs.drop (i*3)).length=(n-i)*3:=by rw[length_drop,jL];try omega
 obtain⟨WA,hWA⟩:∃WA,WA=w.drew.alloc (.cells (xs.take (i*3)++R).toArray 86):=⟨_,rfl⟩;have MJ:WA.heap[w.heap.size]? = some (.cells (xs.take (i*3)++R).toArray 86 (0,0)):=by rw[hWA];exact heap_alloc_new w.drew _
 have MK:∀x,x<w.heap.size->WA.heap[x]? = w.heap[x]?:=fun x hx=>by rw[hWA];exact Below.heap_alloc w.drew _ x hx
 have IY:∀(W:World),W.heap=WA.heap->∀ty dc,(Builtin.copy_ #[38,38] ty #[.slice (some ⟨w.heap.size,i*3,none⟩) (n+1-i) dc,.slice (some ⟨vb,0,none⟩) 1 vc]).run prog W=.ok (goInt ↑(1:Nat)) (W.setRow w.heap.size r1.toArray):=fun W hW ty dc=>by
  rw[cW W 38 38 ty 86 w.heap.size (i*3) (n+1-i) dc ⟨vb,0,none⟩ 1 vc _ 86 aV 3 1 underlying38 sizeOf86 (by rw[hW];exact MJ) (by simp only[Nat.min_def];split<;>omega) (by omega)
   (fun j u hj=>by rw[Addr.add_lit,Nat.zero_add];exact dB (by rw[hW,MK vb Gq];exact hv) (n:=aV.length) (by simp) hj) (by simp only[size_toArray,length_append,length_take,jL,J2];omega) h1,lu]
  rfl
 have IX:∀(W:World),W.heap=(WA.setRow w.heap.size r1.toArray).heap->∀ty dc sc,(Builtin.copy_ #[38,38] ty #[.slice (some ⟨w.heap.size,(i+1)*3,none⟩) (n+1-(i+1)) dc,.slice (some ⟨g,i*3,none⟩) (n-i) sc]).run prog W=.ok (goInt ↑(n-i)) (W.setRow w.heap.size r2.toArray):=fun W hW ty dc sc=>by
  rw[cW W 38 38 ty 86 w.heap.size ((i+1)*3) (n+1-(i+1)) dc ⟨g,i*3,none⟩ (n-i) sc r1.toArray 86 (xs.drop (i*3)) 3 (n-i) underlying38 sizeOf86 (by rw[hW];exact setRow_heap WA _ _ _ 86 _ MJ) (by simp only[Nat.min_def];split<;>omega) (by omega)
   (fun j u hj=>by
    rw[Addr.add_lit];exact dB (by rw[hW,setRow_other _ _ g _ (by omega),MK g WC];exact hg) hx (by rwa [getElem?_drop]at hj))
   (by simp only[size_toArray,q1,mS];omega) (fun u hu=>me u (mem_of_mem_drop hu)),kC]
  rfl
 have j9:∀v' W',W'.heap=((WA.setRow w.heap.size r1.toArray).setRow w.heap.size r2.toArray).heap->W'.os=w.os->W'.tape=w.tape->W'.output=w.output->v'=.slice (some ⟨w.heap.size,0,none⟩) (n+1) G->de au 86 3 (.slice (some ⟨g,0,none⟩) n aU) (n+1) (xs.take (i*3)++aV++xs.drop (i*3)) w (.returned v') W':=by
  rintro v' W' hW h2 h3 h4 rfl;have gP:W'.heap.size=w.heap.size+1:=by rw[hW,hWA];simp
  refine⟨_,rfl,⟨by rw[<-q3,length_take,q2];omega,.inr ⟨w.heap.size,G,r2.toArray,rfl,hb,by rw[hW,setRow_setRow];exact setRow_heap WA _ _ _ 86 _ MJ,Sb,Be,by simp[q2];omega,by rw[show(n+1)*3=n*3+3 by omega];exact q3⟩⟩,⟨h2,h3,h4,by omega,fun x hx pF=>by rw[hW,setRow_setRow,setRow_other _ _ x _ (by omega),MK x hx]⟩,.inr ⟨_,rfl,Nat.le_refl _⟩⟩
 have Hf:=aq j9;have WQ:G<=9223372036854775807:=by unfold maxLen at Be;omega
 have aaj:¬((i:Int)=(n:Int)):=by omega
 have Rj:(aU:Int)<(n:Int)+1:=by omega
 have gY:i<=n:=by omega
 have hGi:¬(G=i):=by omega
 have abo:¬(G=i+1):=by omega
 have hci:¬(aU=i):=by omega
 have hQ:(i:Int)<=(n:Int):=by omega
 have iD:IntKind.i64.wrap ((i:Int)+1)=(i:Int)+1:=by rw[IntKind.wrap_i64];omega
 have dJ:(0:Int)<=(i:Int)+1:=by omega
 have UO:((i:Int)+1).toNat=i+1:=by omega
 obtain⟨BU,hROW⟩:∃BU,BU=(xs.take (i*3)++R).toArray:=⟨_,rfl⟩;rw[<-hROW]at UQ;have HW:Hid (WA=w.drew.alloc (.cells BU 86)):=by rw[hROW];exact hWA
 have hA:∀ty dc,(Builtin.copy_ #[38,38] ty #[.slice (some ⟨w.heap.size,i*3,none⟩) (n+1-i) dc,.slice (some ⟨vb,0,none⟩) 1 vc]).run prog (w.alloc (.cells BU 86)).drew=.ok (goInt ↑(1:Nat)) ((w.alloc (.cells BU 86)).drew.setRow w.heap.size r1.toArray):=IY _ (by rw[an HW];rfl);have hB:∀ty dc sc,(Builtin.copy_ #[38,38] ty #[.slice (some ⟨w.heap.size,(i+1)*3,none⟩) (n+1-(i+1)) dc,.slice (some ⟨g,i*3,none⟩) (n-i) sc]).run prog ((w.alloc (.cells BU 86)).drew.setRow w.heap.size r1.toArray).drew=.ok (goInt ↑(n-i)) (((w.alloc (.cells BU 86)).drew.setRow w.heap.size r1.toArray).drew.setRow w.heap.size r2.toArray):=IX _ (by rw[an HW];rfl)
 clear j9 q1 q2 q3 lu kC hg hv hl h1 hx me jL mS nS Dt hold hR J2 hG Be MJ MK IY IX hROW hWA;go_enter func111,ntmps111
 go_wp2_with (first
  |(at_builtin;refine Lib.wpList_append_run _ rfl _ _ _ _ rfl _ _ rfl rfl _ _ (UQ _) ?_)
  |(at_builtin;refine wpList_copy_runI _ rfl _ _ 38 38 rfl _ _ rfl rfl (hA _ _) ?_))
 have mixed:=oG
 go_region_law_o (refine step_copy_runI rfl _ _ 38 38 rfl (.slice (some ⟨w.heap.size,(i+1)*3,none⟩) (n+1-(i+1)) (G-(i+1))) (.slice (some ⟨g,i*3,none⟩) (n-i) (aU-i)) (by simp[Act.eval,Act.put]) (by simp[Act.eval,Act.put]) (hB 3 (G-(i+1)) (aU-i)) ?_)
 go_wp2
 go_ret;exact an Hf _ _ (by rw[an HW];rfl) rfl rfl rfl rfl
theorem oK (au:Nat) (v:Value) (n i:Nat) (xs aV:List Value) (vb vc:Nat) (w:World) (ho:w.ownsRow au 86 3 v n xs) (hi:i<=n) (hn:n<=100) (hb:au<=w.heap.size) (me:∀u∈xs,u.oneCell'=true)
 (hv:w.heap[vb]? = some (.cells aV.toArray 86 (0,0))) (hl:aV.length=1*3) (h1:∀u∈aV,u.oneCell'=true) (dr:v.ownBlock≠some vb):
 Calls prog 111 #[v,.int .i64 i,.slice (some ⟨vb,0,none⟩) 1 vc] w fun e w'=>de au 86 3 v (n+1) (xs.take (i*3)++aV++xs.drop (i*3)) w e w':=by
 have jL:xs.length=n*3:=by have:=ho.1;omega
 rcases Nat.lt_or_ge i n with h|h
 ·rcases ho.2 with⟨rfl,rfl⟩|⟨g,aU,cur,rfl,vH,hg,uC,lJ,gZ,hx⟩
  ·omega
  ·have pF:vb≠g:=fun e=>dr (by rw[e];rfl)
   have RX:cur.size=aU*3:=by omega
   have sS:cur.toList.take (n*3)=xs:=by rw[<-hx,show n*3=n*3 by omega]
   rcases Nat.lt_or_ge aU (n+1)with h2|h2
   ·exact qx au g aU cur n i xs aV vb vc w h hn hb hg uC h2 sS jL me hv hl h1
   ·exact oJ au g aU cur n i xs aV vb vc w h hn hg vH h2 lJ RX sS me hv hl h1 pF
 ·obtain rfl:i=n:=by omega
  have:=rR au v i xs aV vb vc w ho hn hb hv hl h1;rw[take_of_length_le (by omega),drop_eq_nil_of_le (by omega),append_nil];exact this
theorem uN (w:World):Calls prog 57 #[.slice none 0 0] w fun e w'=>e=.returned (.slice none 0 0)/\w'=w:=by
 have q22:∀(w:World) (a:Option Addr) (n c n' c':Nat),(binOp .eql 38 (.slice a n c) (.slice none n' c')).run prog w=.ok (.bool a.isNone) w:=fun w a n c n' c'=>Lib.run_eql_slice_nil w _ _ a n c n' c' underlying38
 go_enter func57,ntmps57
 go_wp2
 go_ret;exact⟨rfl,rfl⟩
theorem sl (au:Nat) (g aU:Nat) (cur:Array Value) (n i:Nat) (xs:List Value) (w:World) (hi:i<n) (hn:n<=100) (hg:w.heap[g]? = some (.cells cur 86 (0,0))) (vH:au<=g) (uC:n<=aU) (lJ:aU<=maxLen) (gZ:cur.size=aU*3) (hx:cur.toList.take (n*3)=xs) (me:∀u∈xs,u.oneCell'=true):
 Calls prog 110 #[.slice (some ⟨g,0,none⟩) n aU,.int .i64 i,.int .i64 ((i:Int)+1)] w fun e w'=>de au 86 3 (.slice (some ⟨g,0,none⟩) n aU) (n-1) (xs.take (i*3)++xs.drop ((i+1)*3)) w e w':=by
 obtain⟨i0,Dv,hz0,fE,fD⟩:=info_parts EH;have jL:xs.length=n*3:=by rw[<-hx,length_take,Array.length_toList];omega
 obtain⟨aV,hnews⟩:∃aV,aV=xs.drop ((i+1)*3):=⟨_,rfl⟩;have mS:aV.length=(n-(i+1))*3:=by rw[hnews,length_drop,jL];try omega
 obtain⟨A,hA,vz⟩:∃A:Addr,(if aU=i+1 then some (⟨g,0,none⟩:Addr)else some ⟨g,(i+1)*3,none⟩)=some A/\(∀t u,aV[t]? = some u->w.drew.cell? (A.add t)=some u):=by
  by_cases h:aU=i+1
  ·refine⟨⟨g,0,none⟩,by simp[h],fun t u hu=>?_⟩;have h0:aV.length=0:=by rw[mS];omega
   rw[List.length_eq_zero_iff.1 h0]at hu;simp at hu
  ·refine⟨⟨g,(i+1)*3,none⟩,by simp[h],fun t u hu=>?_⟩;rw[Addr.add_lit];rw[hnews,getElem?_drop]at hu;exact dB (w:=w.drew) hg hx hu
 obtain⟨r1,lu⟩:∃r1,r1=cur.toList.take (i*3)++aV++cur.toList.drop (i*3+aV.length):=⟨_,rfl⟩;obtain⟨zs,Dh⟩:=aa ((Builtin.zeroCells (Value.cells (.agg #[.string ⟨#[]⟩,.string ⟨#[]⟩,.bool false])) 1).toList);have Ri:zs.length=3:=by rw[<-Dh,Array.length_toList,size_zeroCells];simp[Value.cells]
 have IB:∀u∈zs,u.oneCell'=true:=by rw[<-Dh];intro u hu;simp[Builtin.zeroCells,Value.cells,range_succ]at hu;rcases hu with rfl|rfl|rfl<;>rfl
 obtain⟨r2,kC⟩:∃r2,r2=r1.take ((n-1)*3)++zs++r1.drop ((n-1)*3+zs.length):=⟨_,rfl⟩
 have l1:r1.length=aU*3:=by rw[lu];simp only[length_append,length_take,length_drop,Array.length_toList,mS,gZ];omega
 have l2:r2.length=aU*3:=by rw[kC];simp only[length_append,length_take,length_drop,l1,Ri];omega
 have q3:r2.take ((n-1)*3)=xs.take (i*3)++aV:=by
  have e0:cur.toList.take (i*3)=xs.take (i*3):=by rw[<-hx,take_take];congr 1;omega
  have l3:(xs.take (i*3)++aV).length=(n-1)*3:=by rw[length_append,length_take,mS,jL];omega
  rw[kC,append_assoc,take_append_of_le_length (by rw[length_take];omega),take_take,Nat.min_self,lu,e0,take_append_of_le_length (by omega),take_of_length_le (by omega)]
 have lX:∀ty,(Builtin.append_ #[38,38] ty #[.slice (some ⟨g,0,none⟩) i aU,.slice (some A) (n-(i+1)) (aU-(i+1))]).run prog w.drew=.ok (.slice (some ⟨g,0,none⟩) (i+(n-(i+1))) aU) (w.drew.setRow g r1.toArray):=fun ty=>by
  have h:=run_append_room (P:=prog) w.drew 38 ty 86 i0 underlying38 Dv g i aU cur hg A (n-(i+1)) (aU-(i+1)) aV (by rw[fE];omega) vz (fun u hu=>me u (mem_of_mem_drop (by rw[<-hnews];exact hu))) (by omega) (by rw[fE];omega);rw[fE]at h
  try simp only[Nat.mul_one]at h
  rw[<-lu]at h;exact h
 have hlen:i+(n-(i+1))=n-1:=by omega
 rw[hlen]at lX;have oP:(w.drew.setRow g r1.toArray).heap[g]? = some (.cells r1.toArray 86 (0,0)):=setRow_heap w.drew g cur _ 86 _ hg
 have tL:∀ty c,(Builtin.clear_ #[38] ty #[.slice (some ⟨g,(n-1)*3,none⟩) (n-(n-1)) c]).run prog (w.drew.setRow g r1.toArray)=.ok (.tuple #[]) (w.drew.setRow g r2.toArray):=fun ty c=>by have h:=kK (P:=prog) (w.drew.setRow g r1.toArray) 38 86 ty (.agg #[.string ⟨#[]⟩,.string ⟨#[]⟩,.bool false]) underlying38 zeroValue86 g ((n-1)*3) (n-(n-1)) c r1.toArray 86 zs (by rw[show n-(n-1)=1 by omega];exact Dh) (by omega) oP (by rw[size_toArray,l1,Ri];omega) IB;rw[h,setRow_setRow,kC]
 obtain⟨W1,tu⟩:∃W1,W1=w.drew.setRow g r1.toArray:=⟨_,rfl⟩;obtain⟨W2,hW2⟩:∃W2,W2=w.drew.setRow g r2.toArray:=⟨_,rfl⟩;rw[<-tu]at lX;rw[<-tu,<-hW2]at tL
 have j9:∀v',v'=.slice (some ⟨g,0,none⟩) (n-1) aU->de au 86 3 (.slice (some ⟨g,0,none⟩) n aU) (n-1) (xs.take (i*3)++xs.drop ((i+1)*3)) w (.returned v') W2:=by rintro v' rfl;rw[<-hnews];refine⟨_,rfl,⟨by rw[<-q3,length_take,l2];omega,.inr ⟨g,aU,r2.toArray,rfl,vH,by rw[hW2];exact setRow_heap w.drew g cur _ 86 _ hg,by omega,lJ,by simp[l2],by rw[show(n-1)*3=(n-1)*3 by omega];exact q3⟩⟩,⟨by rw[hW2];rfl,by rw[hW2];rfl,by rw[hW2];rfl,by rw[hW2];simp,fun x hx pF=>by rw[hW2];exact setRow_other w.drew g x _ (fun e=>pF (by rw[e];rfl))⟩,.inl rfl⟩
 have Hf:=aq j9;have RY:aU<=9223372036854775807:=by unfold maxLen at lJ;omega
 have gY:i<=n:=by omega
 have hQ:(i:Int)<(n:Int):=by omega
 have iD:¬((i:Int)=(i:Int)+1):=by omega
 have Wz:i<=aU:=by omega
 have dJ:(0:Int)<=(i:Int)+1:=by omega
 have UO:((i:Int)+1).toNat=i+1:=by omega
 have qR:(i:Int)+1<=(n:Int):=by omega
 have WL:(i:Int)+1<=(aU:Int):=by omega
 have WK:¬(aU=n-1):=by omega
 have I2:n-1<=n:=by omega
 have hb9:n-1<=aU:=by omega
 have mixed:=oG;clear j9 q3 lu kC tu hW2 oP hg hx me gZ jL mS lJ vz hnews l1 l2 Dh Ri IB hlen;go_enter func110,ntmps110;go_wp2_with fail
 go_region_law_o (refine cH rfl _ _ 38 38 rfl (.slice (some ⟨g,0,none⟩) i aU) (.slice (some A) (n-(i+1)) (aU-(i+1))) (by simp[Act.eval,Act.put]) (by simp[Act.eval,Act.put]) (lX _) ?_)
 go_wp2
 go_ret;exact an Hf _ rfl
theorem oU (au:Nat) (v:Value) (n i:Nat) (xs:List Value) (w:World) (ho:w.ownsRow au 86 3 v n xs) (hi:i<n) (hn:n<=100) (me:∀u∈xs,u.oneCell'=true):
 Calls prog 110 #[v,.int .i64 i,.int .i64 ((i:Int)+1)] w fun e w'=>de au 86 3 v (n-1) (xs.take (i*3)++xs.drop ((i+1)*3)) w e w':=by
 rcases ho.2 with⟨rfl,rfl⟩|⟨g,aU,cur,rfl,vH,hg,uC,lJ,gZ,hx⟩
 ·omega
 ·exact sl au g aU cur n i xs w hi hn hg vH uC lJ (by omega) (by rw[<-hx,show n*3=n*3 by omega]) me
section
theorem Rg:∃i z,prog.info? 5=some i/\i.zero=some z/\i.size=1/\i.bytes=1/\z.cells=#[Value.int .u8 0]:=by
 have h:(prog.info? 5).map (fun i=>(i.zero.map Value.cells,i.size,i.bytes))=some (some #[Value.int .u8 0],1,1):=by kernel_rfl
 cases hq:prog.info? 5 with
 |none=>rw[hq]at h;cases h
 |some i=>
  rw[hq]at h;simp only[Option.map_some,Option.some.injEq,Prod.mk.injEq]at h;obtain⟨h1,h2,h3⟩:=h
  cases hz:i.zero with
  |none=>rw[hz]at h1;cases h1
  |some z=>rw[hz]at h1;exact⟨i,z,rfl,hz,h2,h3,Option.some.inj h1⟩
def kG (n:Nat):List UInt8:=List.replicate n 0
theorem Ke (n:Nat):ez (kG n)=List.replicate n (.int .u8 0):=by simp[ez,kG,map_replicate]
theorem Kx (n:Nat):madeCells #[Value.int .u8 0] (n*1)=(ez (kG n)).toArray:=by
 rw[Ke];unfold madeCells;apply Array.ext
 ·simp
 ·intro i h1 h2;have hi:i%(#[Value.int .u8 0]:Array Value).size<(#[Value.int .u8 0]:Array Value).size:=Nat.mod_lt _ (by simp);simp only[Array.getElem_map,Array.getElem_range,getElem_toArray,getElem_replicate];rw[getElem!_pos #[Value.int .u8 0] _ hi];simp
theorem NZ (n:Nat) (hn:n<=1000) (w:World):(Instr.makeSlice 178 (.int .i64 n) (.int .i64 n)).run prog w=.ok (.slice (some ⟨w.heap.size,0,none⟩) n n) (w.alloc (.cells (ez (kG n)).toArray 5)):=by
 obtain⟨i,z,h1,h2,h3,h4,h5⟩:=Rg;have:=run_make (P:=prog) w 178 5 i z underlying178 h1 h2 .i64 .i64 n n (by omega) (Int.le_refl _) (by rw[h4];omega) (by omega);rw[h3,h5,Int.toNat_natCast,Kx]at this;exact this
variable (w0 w:World) (rb:Nat) (r:DK) (l2:List aI)
end
section
def Info (e:TypeId) (k bytes:Nat):Prop:=∃i z,prog.info? e=some i/\i.zero=some z/\i.size=k/\i.bytes=bytes/\z.cells.size=k
theorem EG {e:TypeId} {k bytes:Nat} (h:(prog.info? e).map (fun i=>(i.zero.map fun z=>z.cells.size,i.size,i.bytes))=some (some k,k,bytes)):Info e k bytes:=by
 cases hq:prog.info? e with
 |none=>rw[hq]at h;cases h
 |some i=>
  rw[hq]at h;simp only[Option.map_some,Option.some.injEq,Prod.mk.injEq]at h;obtain⟨h1,h2,h3⟩:=h
  cases hz:i.zero with
  |none=>rw[hz]at h1;cases h1
  |some z=>rw[hz]at h1;exact⟨i,z,hq,hz,h2,h3,Option.some.inj h1⟩
theorem Wd:Info 9 1 16:=EG (by kernel_rfl)
theorem ZT:Info 86 3 40:=EG (by kernel_rfl)
theorem ZS:Info 38 1 24:=EG (by kernel_rfl)
section
variable {w0 w:World}
theorem aw.append (l1:List aI) {v:Value} {e:TypeId} {k n bytes:Nat} {xs:List Value} {l2:List aI} (H:aw w0 w (l1++.row v e k n xs::l2)) (t ty:TypeId) (ht:prog.underlying t=some (.slice e)) (hi:Info e k bytes) (hk:0<k) (hb:bytes<=1000) (p:Option Addr) (m c:Nat) (aV:List Value) (hl:aV.length=m*k)
 (hp:0<m->∃b off,p=some ⟨b,off,none⟩/\∀j u,aV[j]? = some u->w.cell? ⟨b,off+j,none⟩=some u) (XW:p=none->m=0/\c=0) (h1:∀u∈aV,u.oneCell'=true) (hn:n+m<=1000000):
 ∃v' w',(Builtin.append_ #[t,t] ty #[v,.slice p m c]).run prog w=.ok v' w'/\aw w0 w' (l1++.row v' e k (n+m) (xs++aV)::l2)/\Kept (fun x=>0<eR v x) w w':=by
 obtain⟨i,z,Cd,hz,gP,hby,Dh⟩:=hi;have ft:w.ownsRow w0.heap.size e k v n xs:=H.rowAt (by simp)
 cases p with
 |none=>obtain⟨rfl,rfl⟩:=XW rfl;have oN:aV=[]:=eq_nil_of_length_eq_zero (by simpa using hl);subst oN;refine⟨v,w,?_,by simpa using H,Kept.refl _ w⟩;obtain⟨p',c',rfl,uC,_⟩:=cI ft;cases p'<;>simp[Builtin.append_,run_underlying ht,sizeOf,typeInfo,Cd,Builtin.lenOf,Builtin.firstCells,uC,storeCells]
 |some a=>
  have ha:∀j u,aV[j]? = some u->w.cell? (a.add j)=some u:=fun j u hj=>by
   have hm:0<m:=by
    rcases Nat.eq_zero_or_pos m with h0|h0
    ·subst h0;have:aV=[]:=eq_nil_of_length_eq_zero (by simpa using hl);subst this;simp at hj
    ·exact h0
   obtain⟨b,off,Rz,hc⟩:=hp hm;injection Rz with Rz;subst Rz;rw[add_plain];exact hc j u hj
  obtain⟨v',w',hr,ho,hg,_,iV⟩:=run_append_own_at (P:=prog) w w0.heap.size t ty e i z k bytes ht Cd hz gP hby Dh hk v n xs ft a m c aV hl ha h1 (by unfold maxLen;omega) (by have:(n+m)*bytes<=1000000*1000:=Nat.mul_le_mul hn hb;omega) H.size;refine⟨v',w',hr,H.grow l1 hg ho (iV.imp id fun h=>⟨_,h,Nat.le_refl _⟩),(Kept.refl _ w).grown hg fun x hx _=>dV.2 hx⟩
end
theorem bN {P:Program} {ops:Array Oper} {rest:List Oper} {o:Oper} {a:Act} {w:World} {Q:Exit->Act->World->Prop} (hgd:o.guard=none) (d x:Operand) (dT sT:TypeId) (ho:o.op=Op.call {callee:=Callee.builtin Builtin.append,args:=#[d,x],argTypes:=#[dT,sT]})
 (v u:Value) (hd:a.eval d=v) (hx:a.eval x=u) {v':Value} {w':World} (hr:(Builtin.append_ #[dT,sT] o.type #[v,u]).run P w=.ok v' w') (h:wpList P ops Q rest (a.put o.dst v') w'):wpList P ops Q (o::rest) a w:=by
 refine wpList_plain hgd fun K hK=>?_
 unfold Oper.wp;simp[execOp,ho,resolve,invoke,builtin,hd,hx,hr,Result.andThen];exact hK _ _ h
end
def zh (c:bn):List Value:=[.string c.az,.string c.val,.bool c.gone]
def MW (c:bn):Value:=.agg #[.string c.az,.string c.val,.bool c.gone]
def aR (c:bn):Option Int:=
 if c.az.toList.isEmpty||(c.gone && !c.val.toList.isEmpty)then some 3 else if decide (48<c.az.size)||decide (44<c.val.size)then some 2 else none
theorem Lu (c:bn):∀k,aR c=some k->0<k:=by
 intro k h;unfold aR at h
 split at h
 ·cases h;decide
 split at h
 ·cases h;decide
 ·cases h
theorem oq {c:bn} (h:aR c=none):c.az.toList.isEmpty=false/\(c.gone=true->c.val.toList.isEmpty=true)/\c.az.size<=48/\c.val.size<=44:=by
 unfold aR at h
 split at h
 ·cases h
 rename_i h1
 split at h
 ·cases h
 rename_i h2
 simp only[Bool.or_eq_true,Bool.and_eq_true,Bool.not_eq_true',decide_eq_true_eq,not_or,not_and]at h1 h2;exact⟨by simpa using h1.1,fun hg=>by have:=h1.2 hg;simpa using this,by omega,by omega⟩
theorem FP (l:List UInt8):(l==[])=l.isEmpty:=by cases l<;>rfl
theorem sq (c:bn) (w:World):Calls prog 113 #[MW c] w fun e w'=>e=.returned (bH (aR c))/\Below w.heap.size w w':=by
 obtain⟨az,val,gone⟩:=c;have uG:∀o,Below w.heap.size w (w.alloc o):=fun o=>(Below.refl _ _).alloc (Nat.le_refl _) o
 have CL:=aq uG;clear uG;unfold aR MW;simp only
 cases hk:az.toList.isEmpty with
 |true=>
  have ll:(az.toList==[])=true:=by rw[FP,hk]
  simp only[Bool.true_or,if_true];go_enter func113,ntmps113;go_wp2_with fail;go_ret;exact⟨rfl,an CL _⟩
 |false=>
 have ll:(az.toList==[])=false:=by rw[FP,hk]
 obtain⟨bv,hv⟩:=aa val.toList.isEmpty;have wE:(val.toList==[])=bv:=by rw[FP,hv]
 rw[hv]
 by_cases hg:(gone && !bv)=true
 ·rw[hg];simp only[Bool.false_or,if_true];have X6:gone=true/\bv=false:=by cases gone<;>cases bv<;>simp_all
  obtain⟨rfl,rfl⟩:=X6;clear hg;go_enter func113,ntmps113;go_wp2_with fail;go_ret;exact⟨rfl,an CL _⟩
 ·have KS:(gone && !bv)=false:=by simpa using hg
  rw[KS];simp only[Bool.or_self,Bool.false_eq_true,if_false];have TZ:gone=false∨bv=true:=by cases gone<;>cases bv<;>simp_all
  clear hg KS
  by_cases h1:48<az.size
  ·have z1:(48:Int)<(az.size:Int):=by omega
   rw[decide_eq_true h1];simp only[Bool.true_or,if_true]
   rcases TZ with rfl|rfl
   ·go_enter func113,ntmps113;go_wp2_with fail;go_ret;exact⟨rfl,an CL _⟩
   ·cases gone<;>(go_enter func113,ntmps113;go_wp2_with fail;go_ret;exact⟨rfl,an CL _⟩)
  ·have z1:¬(48:Int)<(az.size:Int):=by omega
   rw[decide_eq_false h1];simp only[Bool.false_or]
   by_cases h2:44<val.size
   ·have z2:(44:Int)<(val.size:Int):=by omega
    rw[decide_eq_true h2];simp only[if_true]
    rcases TZ with rfl|rfl
    ·go_enter func113,ntmps113;go_wp2_with fail;go_ret;exact⟨rfl,an CL _⟩
    ·cases gone<;>(go_enter func113,ntmps113;go_wp2_with fail;go_ret;exact⟨rfl,an CL _⟩)
   ·have z2:¬(44:Int)<(val.size:Int):=by omega
    rw[decide_eq_false h2];simp only[Bool.false_eq_true,if_false]
    rcases TZ with rfl|rfl
    ·go_enter func113,ntmps113;go_wp2_with fail;go_ret;exact⟨rfl,an CL _⟩
    ·cases gone<;>(go_enter func113,ntmps113;go_wp2_with fail;go_ret;exact⟨rfl,an CL _⟩)
def dw:Nat->Nat->List UInt8
 |_,0=>[]
 |q,k+1=>UInt8.ofNat (q%256)::dw (q / 256) k
theorem bR:∀(k q:Nat),(dw q k).length=k
 | 0,_=>rfl
 |k+1,q=>by simp[dw,bR k]
theorem Uv (S:List UInt8) (z:UInt8) (Z:List UInt8) (x:UInt8):(ez (S++z::Z)).set S.length (.int .u8 (x.toNat:Int))=ez (S++x::Z):=by
 simp[ez,set_append]
theorem gq (n m:Nat) (hn:n<4294967296) (hm:m<=8) (w:World):Calls prog 209 #[.int .u32 (n:Int),.int .i64 m] w fun e w'=>e=.returned (.string ⟨(dw n m).toArray⟩)/\Below w.heap.size w w':=by
 have Mx:=NZ m (by omega) w;have uG:∀o,Below w.heap.size w (w.alloc o):=fun o=>(Below.refl _ _).alloc (Nat.le_refl _) o
 have CL:=aq uG
 have Hcv:Hid (∀S:List UInt8,S.length=m->(convert 178 9 (.slice (some ⟨w.heap.size,0,none⟩) m m)).run prog (w.alloc (.cells (ez S).toArray 5))=.ok (.string ⟨S.toArray⟩) (w.alloc (.cells (ez S).toArray 5))):=fun S hS=>BF _ w.heap.size 0 S m m hS (fun j v hv=>by
  rw[Nat.zero_add,cell_of_row _ _ j _ 5 (0,0) (heap_alloc_new w _)]
  simpa using hv)
 obtain⟨Z,hZ⟩:=aa (ez (kG m));rw[hZ]at Mx;have HZ:=aq hZ;clear hZ uG;go_enter func209,ntmps209;go_wp2_with fail
 go_loopg [0,11] (m+1) (fun g v0 vi wr=>∃(q:Nat) (S:List UInt8),m-S.length<g/\S.length<=m/\v0=.int .u32 (q:Int)/\q<4294967296/\vi=.int .i64 S.length/\Hid (S++dw q (m-S.length)=dw n m)/\wr=w.alloc (.cells (ez (S++kG (m-S.length))).toArray 5))
 case atStart=>exact⟨n,[],by simp,by simp,rfl,hn,rfl,rfl,by rw[<-an HZ];rfl⟩
 case round=>
  obtain⟨q,S,hg,hS,rfl,hq,rfl,HS,Di⟩:=hrel;subst Di
  by_cases gY:S.length<m
  ·have mI:(S.length:Int)<(m:Int):=by omega
   obtain⟨k,hk⟩:∃k,m-S.length=k+1:=⟨m-S.length-1,by omega⟩;rw[hk]at HS ⊢;have hz:kG (k+1)=0::kG k:=rfl;rw[hz]
   have hc:(w.alloc (.cells (ez (S++0::kG k)).toArray 5)).cell? ⟨w.heap.size,S.length,none⟩=some (.int .u8 0):=by rw[cell_of_row _ _ _ _ 5 (0,0) (heap_alloc_new w _)];simp[ez]
   have hf:(w.alloc (.cells (ez (S++0::kG k)).toArray 5)).frozen? ⟨w.heap.size,S.length,none⟩=false:=frozen_of_row _ _ _ _ 5 (heap_alloc_new w _)
   have XR:(w.alloc (.cells (ez (S++0::kG k)).toArray 5)).setCell ⟨w.heap.size,S.length,none⟩ (.int .u8 ((q:Int)%256))=w.alloc (.cells (ez ((S++[UInt8.ofNat (q%256)])++kG k)).toArray 5):=by
    have e1:(q:Int)%256=((UInt8.ofNat (q%256)).toNat:Int):=by
     have e0:(UInt8.ofNat (q%256)).toNat=q%256:=by simp
     rw[e0];omega
    rw[e1,World.setCell_alloc_at (hn:=rfl)]
    congr 2
    rw[setIfInBounds_toArray,Uv];simp
   obtain⟨wa,hwa⟩:=aa (w.alloc (.cells (ez (S++0::kG k)).toArray 5));rw[hwa]at hc hf XR ⊢;have afd:=aq XR;clear XR hwa Mx hz;go_wp2_with fail
   go_roundg (m-S.length)
   case measure=>omega
   case rel=>
    have hl:(S++[UInt8.ofNat (q%256)]).length=S.length+1:=by simp
    refine⟨q / 256,S++[UInt8.ofNat (q%256)],by omega,by omega,?_,by omega,by rw[hl];simp,?_,?_⟩
    ·first|rfl|simp
    ·have h9:=an HS
     show _=_;rw[hl,show m-(S.length+1)=k by omega,append_assoc];exact h9
    ·rw[hl,show m-(S.length+1)=k by omega];exact an afd
  ·have mI:¬(S.length:Int)<(m:Int):=by omega
   have hl:S.length=m:=by omega
   have hSe:S=dw n m:=by have h9:=an HS;rw[hl,Nat.sub_self]at h9;simpa[dw]using h9
   have RV:=an Hcv S hl;rw[show m-S.length=0 by omega,show kG 0=[]from rfl,append_nil];obtain⟨SS,hSS⟩:=aa ((ez S).toArray);rw[hSS]at RV ⊢;have Hse:=aq hSe;clear hSS hl Mx HS hSe;go_wp2_with fail;go_ret;exact⟨by have h9:=an Hse;subst h9;rfl,an CL _⟩
section
theorem FJ (au:Nat) (a:Addr) (n c:Nat) (aV:List Value) (w:World) (hl:aV.length=n*3) (hn:n<=100) (hb:au<=w.heap.size)
 (hc:∀j u,aV[j]? = some u->w.cell? (a.add j)=some u) (h1:∀u∈aV,u.oneCell'=true):
 Calls prog 57 #[.slice (some a) n c] w fun e w'=>wk au 86 3 n aV w e w':=by
 obtain⟨i0,hi,hz0,fE,fD⟩:=info_parts EH;have q22:∀(w:World) (a:Option Addr) (n c n' c':Nat),(binOp .eql 38 (.slice a n c) (.slice none n' c')).run prog w=.ok (.bool a.isNone) w:=fun w a n c n' c'=>Lib.run_eql_slice_nil w _ _ a n c n' c' underlying38
 have HC:=aq hc;have HL:=aq hl;have H1:=aq h1;have HB:=aq hb;clear hc hl h1 hb;go_enter func57,ntmps57
 go_wp2_with (at_builtin;refine wpList_append_own_at _ rfl _ _ 38 rfl w.heap.size 86 i0 (.agg #[.string ⟨#[]⟩,.string ⟨#[]⟩,.bool false]) 3 40 underlying38 hi hz0 fE fD rfl (by decide) _ _ _ rfl (World.ownsRow_made w #[] 0 (Nat.le_refl _) (Nat.zero_le _) (by simp)) a n c aV rfl (an HL) (fun j u hj=>Lib.cell?_alloc_some _ (an HC j u hj)) (an H1) (by unfold maxLen;omega) (by omega) (by simp) ?_;intro v4 w4 dS cr ig gQ)
 have Ho:=aq dS;have Hg:=aq cr;have Ha:=aq gQ;clear dS cr ig gQ;go_wp2_with fail;go_ret;have ft:=an Ho;have qQ:=an Hg;have iV:=an Ha;rw[Nat.zero_add,nil_append]at ft;refine⟨v4,rfl,gp ft (an HB),?_,((Below.refl _ w).alloc (Nat.le_refl _) _).grown qQ (by simp) (fun k hk=>Nat.le_of_eq (Option.some.inj hk))⟩
 rcases iV with h|h
 ·exact⟨_,h,Nat.le_refl _⟩
 ·exact⟨_,h,by simp⟩
def aO (v:Value) (L:List bn):aI:=.row v 86 3 L.length (flat L)
def bO (n:Nat) (f:Nat->bn):List bn:=(List.range n).map f
theorem cX (n:Nat) (f:Nat->bn):(bO n f).length=n:=by simp[bO]
theorem uo {n:Nat} {f:Nat->bn} {j:Nat} (h:j<n):(bO n f)[j]? = some (f j):=by simp[bO,getElem?_map,getElem?_range h]
theorem yh {n:Nat} {f:Nat->bn} {i:Nat} (h:i<n):(bO n f).take (i+1)=(bO n f).take i++[f i]:=by
 rw[take_add_one,uo h];rfl
def cP (L:List bn) (c:bn):List bn:=if c.gone then dv L c.az else da L c
def cT (L l:List bn):List bn:=l.foldl cP L
theorem Jy (L l:List bn) (c:bn):cT L (l++[c])=cP (cT L l) c:=by simp[cT]
theorem mM {L:List bn} (h:bf L) (az:ByteArray):bf (dv L az):=List.Pairwise.filter _ h
theorem qV {L:List bn} (h:bf L) (c:bn):bf (cP L c):=by
 unfold cP
 split
 ·exact mM h _
 ·exact gk h
theorem oW {L:List bn} (h:bf L):∀l:List bn,bf (cT L l)
 |[]=>h
 |c::l=>oW (qV h c) l
theorem Jv {L:List bn} {c x:bn} {i:Nat} (hs:bf L) (hf:Found L c.az i true):∃a d x,L=a++x::d/\a.length=i/\x.az=c.az/\(∀y∈a,dR y.az c.az)/\dv L c.az=a++d/\da L c=a++c::d:=by
 obtain⟨h1,h2,h3⟩:=hf
 rcases h3 with⟨_,x,hx,hk⟩|⟨h,_⟩
 ·obtain⟨hi,rfl⟩:=List.getElem?_eq_some_iff.1 hx;have hL:L=L.take i++L[i]::L.drop (i+1):=by rw[<-drop_eq_getElem_cons hi,take_append_drop]
  refine⟨L.take i,L.drop (i+1),L[i],hL,by rw[length_take];omega,hk,h2,?_,?_⟩
  ·have nO:∀y∈L.drop (i+1),dR c.az y.az:=fun y hy=>by
    have h5:=hs;rw[hL]at h5;rw[<-hk];exact(List.pairwise_cons.1 (pairwise_append.1 h5).2.1).1 y hy
   have e1:dv (L.take i) c.az=L.take i:=filter_eq_self.2 fun y hy=>by simp[fL (h2 y hy)]
   have e2:dv (L.drop (i+1)) c.az=L.drop (i+1):=filter_eq_self.2 fun y hy=>by simp[Ne.symm (fL (nO y hy))]
   conv=>lhs;rw[hL]
   unfold dv at e1 e2 ⊢;rw[filter_append,filter_cons,e1,e2];simp[hk]
  ·conv=>lhs;rw[hL]
   exact sL _ _ h2 hk
 ·cases h
theorem Pp {L:List bn} {c:bn} {i:Nat} (hf:Found L c.az i false):∃a d,L=a++d/\a.length=i/\dv L c.az=L/\da L c=a++c::d:=by
 obtain⟨h1,h2,h3⟩:=hf
 rcases h3 with⟨h,_⟩|⟨_,h4⟩
 ·cases h
 ·refine⟨L.take i,L.drop i,(take_append_drop _ _).symm,by rw[length_take];omega,?_,?_⟩
  ·refine filter_eq_self.2 fun y hy=>?_
   rw[<-take_append_drop i L]at hy
   rcases mem_append.1 hy with h|h
   ·simp[fL (h2 y h)]
   ·simp[Ne.symm (fL (h4 y h))]
  ·conv=>lhs;rw[<-take_append_drop i L]
   exact zr _ _ h2 h4
section
variable {w0 w:World}
theorem IL {v:Value} {a d:List bn} {l2:List aI} {vb vc:Nat} {m:bn} (H:aw w0 w (.cell vb 86 (cellsOf m)::aO v (a++d)::l2)) {i n:Nat} (hi:a.length=i) (hn:(a++d).length=n) (hl:n<=100):
 Calls prog 111 #[v,.int .i64 i,.slice (some ⟨vb,0,none⟩) 1 vc] w fun e w'=>∃v',e=.returned v'/\aw w0 w' (aO v' (a++m::d)::l2):=by
 have hr:w.ownsRow w0.heap.size 86 3 v n (flat (a++d)):=by rw[<-hn];exact H.rowAt af
 have dr:v.ownBlock≠some vb:=fun e=>by have h1:=H.uniq vb;simp only[ax,aO,bM,dD,bx,iX e]at h1;omega
 have gY:i<=n:=by rw[<-hn,<-hi,length_append];omega
 refine(oK w0.heap.size v n i (flat (a++d)) (cellsOf m) vb vc w hr gY hl H.size (fM _) (H.cw ae) rfl (fun u hu=>fM [m] u (by simpa[flat]using hu)) dr).mono ?_;rintro e w' ⟨v',rfl,uA,hg,ha⟩;refine⟨v',rfl,?_⟩
 have e1:(flat (a++d)).take (i*3)++cellsOf m++(flat (a++d)).drop (i*3)=flat (a++m::d):=by rw[mT,mU,<-hi,take_left,drop_left,eW,show flat (m::d)=cellsOf m++flat d from rfl,append_assoc]
 rw[e1]at uA;have h3:=(H.aD []).grow [] (v:=v) hg uA ha;have e2:n+1=(a++m::d).length:=by rw[<-hn];simp;omega
 rw[e2]at h3;exact h3
theorem IM {v:Value} {a d:List bn} {l2:List aI} {m:bn} (H:aw w0 w (aO v (a++m::d)::l2)) {i n:Nat} (hi:a.length=i) (hn:(a++m::d).length=n) (hl:n<=100):
 Calls prog 110 #[v,.int .i64 i,.int .i64 ((i:Int)+1)] w fun e w'=>∃v',e=.returned v'/\aw w0 w' (aO v' (a++d)::l2):=by
 have hr:w.ownsRow w0.heap.size 86 3 v n (flat (a++m::d)):=by rw[<-hn];exact H.rowAt ae
 have gY:i<n:=by rw[<-hn,<-hi,length_append,length_cons];omega
 refine(oU w0.heap.size _ n i _ w hr gY hl (fM _)).mono ?_;rintro e w' ⟨v',rfl,uA,hg,ha⟩;refine⟨v',rfl,?_⟩
 have e1:(flat (a++m::d)).take (i*3)++(flat (a++m::d)).drop ((i+1)*3)=flat (a++d):=by rw[mT,mU,<-hi,take_left,eW];congr 2;rw[show a++m::d=(a++[m])++d by simp,drop_append_of_le_length (by simp),drop_eq_nil_of_le (by simp),nil_append]
 rw[e1]at uA;have h3:=H.grow [] hg uA ha;have e2:n-1=(a++d).length:=by rw[<-hn];simp only[length_append,length_cons];omega
 rw[e2]at h3;exact h3
theorem Ox {g aU:Nat} {a d:List bn} {x m:bn} {l1 l2:List aI} {n:Nat} (hn:(a++x::d).length=n) (H:aw w0 w (l1++aO (.slice (some ⟨g,0,none⟩) n aU) (a++x::d)::l2)) {i:Nat} (hi:a.length=i):
 aw w0 (((w.setCell ⟨g,i*3,none⟩ (.string m.az)).setCell ⟨g,i*3+1,none⟩ (.string m.val)).setCell ⟨g,i*3+2,none⟩ (.bool m.gone)) (l1++aO (.slice (some ⟨g,0,none⟩) n aU) (a++m::d)::l2)/\(∀j,j<3->(w.cell? ⟨g,i*3+j,none⟩).isSome=true/\w.frozen? ⟨g,i*3+j,none⟩=false):=by
 unfold aO at H ⊢;rw[hn]at H;have tm:(a++m::d).length=n:=by rw[<-hn];simp
 rw[tm];have IV:(flat (a++x::d)).length=n*3:=by rw[dU,hn]
 have gY:i<n:=by rw[<-hn,<-hi,length_append,length_cons];omega
 have fk:∀j,j<3->(w.cell? ⟨g,i*3+j,none⟩).isSome=true/\w.frozen? ⟨g,i*3+j,none⟩=false:=fun j hj=>by
  have eO:i*3+j<(flat (a++x::d)).length:=by rw[IV];omega
  exact⟨by rw[H.jb (mem_append.2 (.inr ae)) (getElem?_eq_getElem eO)];rfl,H.wL (mem_append.2 (.inr ae)) _⟩
 refine⟨?_,fk⟩;obtain⟨w',h1,h2,_⟩:=H.lay l1 (i*3) (cellsOf m) (by rw[IV];simp[cellsOf];omega) (fun u hu=>fM [m] u (by simpa[flat]using hu))
 have e1:Go.splice (flat (a++x::d)) (i*3) (cellsOf m)=flat (a++m::d):=by unfold Go.splice;rw[show i*3+(cellsOf m).length=(i+1)*3 by simp[cellsOf];omega,mT,mU,<-hi,take_left];rw[show a++x::d=(a++[x])++d by simp,show a.length+1=(a++[x]).length by simp,drop_left,eW];rfl
 rw[e1]at h2;have h3:=run_storeCells_cells (P:=prog) g (i*3) (cellsOf m) 0 w (fun j hj=>by rw[Nat.add_zero];exact(fk j (by simpa[cellsOf]using hj)).1) (fun j hj=>by rw[Nat.add_zero];exact(fk j (by simpa[cellsOf]using hj)).2) (fun u hu=>fM [m] u (by simpa[flat]using hu));rw[h1 prog]at h3;injection h3 with _ h3;rw[h3]at h2;exact h2
end
end
def Shaped (v:Value):Prop:=v=.slice none 0 0∨∃a n c,v=.slice (some a) n c
theorem I7 {w:World} {b off:Nat}:∀{n:Nat} {f:Nat->bn},(∀j,j<n->w.cell? ⟨b,off+j*3,none⟩=some (.string (f j).az)/\w.cell? ⟨b,off+j*3+1,none⟩=some (.string (f j).val)/\w.cell? ⟨b,off+j*3+2,none⟩=some (.bool (f j).gone))->∀j u,(flat (bO n f))[j]? = some u->w.cell? ⟨b,off+j,none⟩=some u:=fun {n f} h j u hu=>by
 have hj:j<n*3:=by
  have:=(List.getElem?_eq_some_iff.1 hu).1
  rwa [dU,cX]at this
 have hq:j / 3<n:=by omega
 have hg:=flat_get (bO n f) (j / 3) (by rw[cX];exact hq)
 have hx:(bO n f)[j / 3]'(by rw[cX];exact hq)=f (j / 3):=by have:=uo (f:=f) hq;exact(List.getElem?_eq_some_iff.1 this).2
 rw[hx]at hg;obtain⟨c0,c1,c2⟩:=h (j / 3) hq;have hm:j%3=0∨j%3=1∨j%3=2:=by omega
 rcases hm with hm|hm|hm
 ·have e:j=j / 3*3:=by omega
  rw[e,hg.1]at hu;rw[e,<-Option.some.inj hu];exact c0
 ·have e:j=j / 3*3+1:=by omega
  rw[e,hg.2.1]at hu;rw[e,<-Option.some.inj hu,<-Nat.add_assoc];exact c1
 ·have e:j=j / 3*3+2:=by omega
  rw[e,hg.2.2]at hu;rw[e,<-Option.some.inj hu,<-Nat.add_assoc];exact c2
theorem yE (v:Value) (n:Nat) (f:Nat->bn) (w:World) (h:iP w v n f) (hs:Shaped v) (hn:n<=100):Calls prog 57 #[v] w fun e w'=>∃v',e=.returned v'/\aw w w' [aO v' (bO n f)]:=by
 have az:∀(a:Addr) c,v=.slice (some a) n c->(∀j u,(flat (bO n f))[j]? = some u->w.cell? (a.add j)=some u)->Calls prog 57 #[v] w fun e w'=>∃v',e=.returned v'/\aw w w' [aO v' (bO n f)]:=fun a c hv hc=>by subst hv;refine(FJ w.heap.size a n c (flat (bO n f)) w (by rw[dU,cX]) hn (Nat.le_refl _) hc (fM _)).mono ?_;rintro e w' ⟨v',rfl,hr,⟨x,hx,XG⟩,hb⟩;refine⟨v',rfl,?_⟩;have h9:=(aw.init w).newRow hb hr (fun y hy=>by rw[hx]at hy;cases hy;exact XG);unfold aO;rw[cX];exact h9
 rcases h with⟨⟨p,c,hv⟩,rfl⟩|⟨b,off,c,hv,_,_,ct⟩
 ·rcases hs with h0|⟨a,m,c',h0⟩
  ·subst h0;refine(uN w).mono ?_;rintro e w' ⟨rfl,rfl⟩;exact⟨_,rfl,(aw.init _).fJ 86 3⟩
  ·have hm:m=0:=by rw[h0]at hv;injection hv
   subst hm;exact az a c' h0 (fun j u hu=>by simp[bO,flat]at hu)
 ·exact az ⟨b,off,none⟩ c hv (fun j u hu=>by rw[add_plain];exact I7 ct j u hu)
theorem Jw (va:Value) (na:Nat) (fa:Nat->bn) (vb:Value) (nb:Nat) (fb:Nat->bn) (w:World) (ha:iP w va na fa) (hb:iP w vb nb fb) (Dj:Shaped va) (Cz:Shaped vb) (hs:bf (bO na fa)) (JY:na<=75) (Gd:nb<=20):
 Calls prog 56 #[va,vb] w fun e w'=>∃v',e=.returned v'/\aw w w' [aO v' (cT (bO na fa) (bO nb fb))]:=by
 have ec:=yE va na fa w ha Dj (by omega);have EC:=aq ec;have HB:=aq hb;have HS:=aq hs;obtain⟨pa,ca,hva⟩:=ha.slice;obtain⟨pb,cb,XL⟩:=hb.slice;subst hva XL;clear ec ha hb Dj Cz hs;go_enter func56,ntmps56;go_wp2_with fail;refine(an EC).mono ?_;rintro e w1 ⟨v1,rfl,hH⟩;have HH:Hid (aw w w1 [aO v1 (cT (bO na fa) ((bO nb fb).take 0))]):=hH;clear hH EC;go_wp2_with fail
 go_loopg [0,13] (nb+1) (fun g v0 vi wr=>∃(i:Nat),nb-i<g/\i<=nb/\vi=.int .i64 i/\Hid (aw w wr [aO v0 (cT (bO na fa) ((bO nb fb).take i))])/\(cT (bO na fa) ((bO nb fb).take i)).length<=na+i)
 case atStart=>exact⟨0,by omega,by omega,rfl,HH,by show(bO na fa).length<=na+0;rw[cX];omega⟩
 case round=>
  obtain⟨i,hg,hi,rfl,HHi,hlen⟩:=hrel
  by_cases gY:i<nb
  ·have mI:(i:Int)<(nb:Int):=by omega
   rcases an HB with⟨_,h0⟩|⟨b,off,c,hv,Oy,qD,ct⟩
   ·omega
   injection hv with hp _ kD;subst hp kD;obtain⟨p0,p1,p2⟩:=ct i gY;have below:=(an HHi).below;have q0:=(bP below (p:=⟨b,off+i*3,none⟩) qD).trans p0;have q1:=(bP below (p:=⟨b,off+i*3+1,none⟩) qD).trans p1;have q2:=(bP below (p:=⟨b,off+i*3+2,none⟩) qD).trans p2;have ns:=yh (f:=fb) gY;have tJ:=oW (an HS) ((bO nb fb).take i);obtain⟨L,hL⟩:=aa (cT (bO na fa) ((bO nb fb).take i));have sU:cT (bO na fa) ((bO nb fb).take (i+1))=cP L (fb i):=by rw[ns,Jy,hL]
   rw[hL]at hlen tJ;rw[hL]at HHi;obtain⟨⟨az,val,gone⟩,hc⟩:∃c,fb i=c:=⟨_,rfl⟩;rw[hc]at q0 q1 q2 sU;simp only at q0 q1 q2;obtain⟨Ud,pW⟩:=aa wr.heap.size;have h1:=(an HHi).aY 86 [.string az,.string val,.bool gone];rw[pW]at h1;obtain⟨wa,hwa⟩:=aa (wr.alloc (.cells #[.string az,.string val,.bool gone] 86));have h2:aw w wa [.cell Ud 86 [.string az,.string val,.bool gone],aO u0 L]:=by rw[<-hwa];exact h1
   have es:=qh w.heap.size u0 L az wa (h2.rowAt af) tJ (by omega);have k0:wa.cell? ⟨Ud,0,none⟩=some (.string az):=h2.cellAt ae rfl;have ES:=aq es;have H2:=aq h2;have Hs:=aq tJ;have Pz:=aq sU;have mB:=aq hlen;clear es h1 h2 tJ sU ns hL below p0 p1 p2 ct hc HHi hlen;go_wp2_with fail;refine(an ES).mono ?_;rintro e w2 ⟨at',qv,rfl,hF,Gj⟩;have h3:=(an H2).over Gj;have k0:w2.cell? ⟨Ud,0,none⟩=some (.string az):=h3.cellAt ae rfl;have k1:w2.cell? ⟨Ud,1,none⟩=some (.string val):=h3.cellAt ae rfl
   have k2:w2.cell? ⟨Ud,2,none⟩=some (.bool gone):=h3.cellAt ae rfl;clear Gj ES H2 pW hwa
   cases qv with
   |true=>
    obtain⟨a,d,x,hLa,sW,Ml,_,hdr,hpu⟩:=Jv (c:=⟨az,val,gone⟩) (x:=⟨az,val,gone⟩) (an Hs) hF
    cases gone with
    |true=>
     have oM:cP L ⟨az,val,true⟩=a++d:=by unfold cP;exact hdr
     rw[hLa]at h3;have ed:=IM (h3.front [_]) sW (n:=L.length) (by rw[<-hLa]) (by have:=an mB;omega);have ED:=aq ed;have BX:=aq oM;have iV:(at':Int)+1<=9223372036854775807:=by have:=hF.1;have:=an mB;omega
     have WZ:Hid ((a++d).length<=L.length):=by show(a++d).length<=L.length;rw[hLa];simp
     clear ed oM h3 hLa hdr hpu hF sW Ml;go_wp2_with fail;refine(an ED).mono ?_;rintro e w3 ⟨v3,rfl,h4⟩;have H4:=aq (h4.aD [_]);clear h4 ED;go_wp2_with fail
     go_roundg (nb-i)
     case measure=>omega
     case rel=>exact⟨i+1,by omega,by omega,by simp,by rw[an Pz,an BX];exact H4,by rw[an Pz,an BX];have:=an WZ;have:=an mB;omega⟩
    |false=>
     have oM:cP L ⟨az,val,false⟩=a++⟨az,val,false⟩::d:=by unfold cP;exact hpu
     have Wp:0<L.length:=by rw[hLa];simp;omega
     obtain⟨g,aU,hu0,_,_⟩:=aZ (h3.rowAt af) Wp;subst hu0
     have dr:Ud≠g:=fun e=>by have h5:=h3.uniq g;subst e;simp only[ax,bM,aO,dD,bx,iX (show(Value.slice (some ⟨Ud,0,none⟩) L.length aU).ownBlock=some Ud from rfl)]at h5;omega
     have eO:Ud<w2.heap.size:=h3.UD ae;have abf:at'<L.length:=by rw[hLa,<-sW];simp
     have E0:(a++(⟨az,val,false⟩:bn)::d).length=L.length:=by rw[hLa];simp
     rw[hLa]at h3;obtain⟨h4,gZ⟩:=Ox (m:=⟨az,val,false⟩) (l1:=[.cell Ud 86 [.string az,.string val,.bool false]]) (n:=L.length) (by rw[<-hLa]) (by rw[<-hLa]at h3 ⊢;exact h3) sW;obtain⟨y0,hy0⟩:=Option.isSome_iff_exists.1 (gZ 0 (by omega)).1;obtain⟨y1,hy1⟩:=Option.isSome_iff_exists.1 (gZ 1 (by omega)).1;obtain⟨y2,hy2⟩:=Option.isSome_iff_exists.1 (gZ 2 (by omega)).1;have z0:=(gZ 0 (by omega)).2;have z1:=(gZ 1 (by omega)).2;have z2:=(gZ 2 (by omega)).2;rw[Nat.add_zero]at hy0 z0;obtain⟨n,hn⟩:=aa L.length;have H4:=aq (h4.aD [])
     have BX:=aq oM;have WZ:=aq E0;have aeN:(at':Int)<(n:Int):=by omega
     have Hn:=aq hn;rw[hn];clear h3 h4 gZ oM E0 hLa hdr hpu hF sW Ml Wp abf hn;go_wp2_with fail
     go_roundg (nb-i)
     case measure=>omega
     case rel=>exact⟨i+1,by omega,by omega,by simp,by rw[an Pz,an BX,<-an Hn];exact H4,by rw[an Pz,an BX];have:=an WZ;have:=an mB;omega⟩
   |false=>
    obtain⟨a,d,hLa,sW,hdr,hpu⟩:=Pp (c:=⟨az,val,gone⟩) hF
    cases gone with
    |true=>
     have oM:cP L ⟨az,val,true⟩=L:=by unfold cP;exact hdr
     have H4:=aq (h3.aD []);have BX:=aq oM;clear h3 oM hLa hdr hpu hF sW;go_wp2_with fail
     go_roundg (nb-i)
     case measure=>omega
     case rel=>exact⟨i+1,by omega,by omega,by simp,by rw[an Pz,an BX];exact H4,by rw[an Pz,an BX];have:=an mB;omega⟩
    |false=>
     have oM:cP L ⟨az,val,false⟩=a++⟨az,val,false⟩::d:=by unfold cP;exact hpu
     have E0:(a++(⟨az,val,false⟩:bn)::d).length=L.length+1:=by rw[hLa];simp;omega
     have h5:=(h3.aD []).aY 86 [.string az,.string val,.bool false];rw[hLa]at h5;have ei:=IL (m:=⟨az,val,false⟩) (vc:=1) h5 sW (n:=L.length) (by rw[<-hLa]) (by have:=an mB;omega);have EI:=aq ei;have BX:=aq oM;have WZ:=aq E0;clear ei h5 h3 oM E0 hLa hdr hpu hF sW;go_wp2_with fail;refine(an EI).mono ?_;rintro e w3 ⟨v3,rfl,h4⟩;have H4:=aq h4;clear h4 EI;go_wp2_with fail
     go_roundg (nb-i)
     case measure=>omega
     case rel=>exact⟨i+1,by omega,by omega,by simp,by rw[an Pz,an BX];exact H4,by rw[an Pz,an BX];have:=an WZ;have:=an mB;omega⟩
  ·have mI:¬(i:Int)<(nb:Int):=by omega
   have TY:i=nb:=by omega
   subst TY;have h9:=an HHi;rw[take_of_length_le (by rw[cX];exact Nat.le_refl _)]at h9;have H9:=aq h9;clear h9 HHi;go_wp2_with fail;go_ret;exact⟨_,rfl,an H9⟩
def bZ (c:bn):List UInt8:=(if c.gone then 1 else 0)::UInt8.ofNat c.az.size::(c.az.data.toList++c.val.data.toList)
def su (c:bn):List UInt8:=if (aR c).isSome then []else bZ c
theorem Eu (s:ByteArray):(⟨s.data.toList.toArray⟩:ByteArray)=s:=by cases s;simp
theorem S6 (a:List UInt8) (s:ByteArray):(⟨a.toArray⟩:ByteArray)++s=⟨(a++s.data.toList).toArray⟩:=by
 conv=>lhs;rhs;rw[<-Eu s]
 exact ByteArray.mk_append_mk _ _
theorem SX (c:bn) (g:UInt8) (hg:g=if c.gone then 1 else 0) (hk:c.az.size<=48):(⟨#[g]⟩:ByteArray)++⟨(dw c.az.size 1).toArray⟩++c.az++c.val=⟨(bZ c).toArray⟩:=by
 have e1:(⟨#[g]⟩:ByteArray)++⟨(dw c.az.size 1).toArray⟩=⟨([g]++dw c.az.size 1).toArray⟩:=ByteArray.mk_append_mk [g] _;rw[e1,S6,S6]
 congr 2
 unfold bZ dw dw;rw[hg,Nat.mod_eq_of_lt (by omega)];rfl
def wu (c:bn) (w:World) (e:Ending) (w':World):Prop:=e=.returned (.tuple #[.string ⟨(su c).toArray⟩,bH (aR c)])/\Below w.heap.size w w'
theorem yH (c:bn) (w:World):Calls prog 208 #[MW c] w fun e w'=>wu c w e w':=by
 have ec:=fun wx=>sq c wx
 unfold wu su;obtain⟨B,hB⟩:=aa w.heap.size;have MH:∀o,Below B w (w.alloc o):=fun o=>(Below.refl _ _).alloc (by omega) o
 have ahA:=aq MH
 have fk:∀wx,Below (B+1) (w.alloc (.cells #[.string c.az,.string c.val,.bool c.gone] 86)) wx->wx.cell? ⟨B,0,none⟩=some (.string c.az)/\wx.cell? ⟨B,1,none⟩=some (.string c.val)/\wx.cell? ⟨B,2,none⟩=some (.bool c.gone)/\Below B w wx:=fun wx hx=>by
  have h0:(w.alloc (.cells #[.string c.az,.string c.val,.bool c.gone] 86)).heap[B]? = some (.cells #[.string c.az,.string c.val,.bool c.gone] 86 (0,0)):=by rw[<-hB];exact heap_alloc_new w _
  refine⟨?_,?_,?_,(MH _).trans (hx.mono (by omega))⟩
  ·rw[bP hx (by show B<B+1;omega),cell_of_row _ _ 0 _ _ _ h0];rfl
  ·rw[bP hx (by show B<B+1;omega),cell_of_row _ _ 1 _ _ _ h0];rfl
  ·rw[bP hx (by show B<B+1;omega),cell_of_row _ _ 2 _ _ _ h0];rfl
 have HC:=aq fk
 cases hp:aR c with
 |some k=>rw[hp]at ec;simp only[bH,Option.isSome_some,if_true]at ec ⊢;have EC:=aq ec;unfold MW at EC ⊢;clear ec fk MH;go_enter func208,ntmps208;go_wp2_with fail;refine(an EC _).mono ?_;rintro e w2 ⟨rfl,cC⟩;have hQ:=(an HC w2 (by have:=cC;rw[World.size_alloc,hB]at this;exact this)).2.2.2;have q9:=aq hQ;clear cC hQ EC;go_wp2_with fail;go_ret2;exact⟨rfl,by rw[hB];exact an q9⟩
 |none=>
  rw[hp]at ec;simp only[bH,Option.isSome_none,Bool.false_eq_true,if_false]at ec ⊢;obtain⟨_,_,hk48,hv44⟩:=oq hp;have EC:=aq ec;have I1:=fun g hg=>SX c g hg hk48
  have EL:=aq (fun wx=>gq c.az.size 1 (by omega) (by omega) wx);obtain⟨L1,hL1⟩:∃L1:ByteArray,⟨(dw c.az.size 1).toArray⟩=L1:=⟨_,rfl⟩;have hL1s:L1.size=1:=by rw[<-hL1];show(dw c.az.size 1).toArray.size=1;simp[bR]
  rw[hL1]at EL I1;obtain⟨BP,hBP⟩:∃BP:ByteArray,⟨(bZ c).toArray⟩=BP:=⟨_,rfl⟩;rw[hBP]at I1 ⊢;obtain⟨az,val,gone⟩:=c;unfold MW at EC ⊢;simp only at *;have hkm:IntKind.u32.wrap (az.size:Int)=(az.size:Int):=by rw[IntKind.wrap_u32];omega
  have Hbe:=aq I1;clear ec fk MH I1 hp hL1 hBP;go_enter func208,ntmps208;go_wp2_with fail;refine(an EC _).mono ?_;rintro e w2 ⟨rfl,cC⟩;have Vd:Below (B+1) (w.alloc (.cells #[.string az,.string val,.bool gone] 86)) w2:=by have:=cC;rw[World.size_alloc,hB]at this;exact this
  obtain⟨k0,k1,k2,hQ⟩:=an HC w2 Vd;have nK:=aq Vd;have ux:B+1<=w2.heap.size:=by have:=Vd.size;rw[World.size_alloc,hB]at this;exact this
  clear cC Vd EC hQ;have rh:Hid (w2.drew.cell? ⟨B,0,none⟩=some (.string az)/\w2.drew.cell? ⟨B,1,none⟩=some (.string val)):=⟨k0,k1⟩
  cases gone with
  |true=>
   have I1:=an Hbe 1 rfl;clear Hbe;go_wp2_with fail
   go_region_held (fun w'=>w'.cell? ⟨B,0,none⟩=some (.string az)/\w'.cell? ⟨B,1,none⟩=some (.string val)) (first|exact an M8|exact an rh) ((go_at_call 209;refine(an EL _).mono ?_;rintro e w5 ⟨rfl,qR⟩;have h5:=(an nK).drew.trans (qR.mono ux);have M8:Hid (w5.cell? ⟨B,0,none⟩=some (.string az)/\w5.cell? ⟨B,1,none⟩=some (.string val)):=⟨(an HC w5 h5).1,(an HC w5 h5).2.1⟩;have HB5:=aq (an HC w5 h5).2.2.2;clear h5 qR))
   all_goals
    go_wp2_with fail
    go_ret2;exact⟨rfl,by rw[hB];exact an HB5⟩
  |false=>
   have I1:=an Hbe 0 rfl;clear Hbe;go_wp2_with fail
   go_region_held (fun w'=>w'.cell? ⟨B,0,none⟩=some (.string az)/\w'.cell? ⟨B,1,none⟩=some (.string val)) (first|exact an M8|exact an rh) ((go_at_call 209;refine(an EL _).mono ?_;rintro e w5 ⟨rfl,qR⟩;have h5:=(an nK).drew.trans (qR.mono ux);have M8:Hid (w5.cell? ⟨B,0,none⟩=some (.string az)/\w5.cell? ⟨B,1,none⟩=some (.string val)):=⟨(an HC w5 h5).1,(an HC w5 h5).2.1⟩;have HB5:=aq (an HC w5 h5).2.2.2;clear h5 qR))
   all_goals
    go_wp2_with fail
    go_ret2;exact⟨rfl,by rw[hB];exact an HB5⟩
def SL (s:ByteArray) (b0:UInt8) (e:Nat):bn:=⟨s.extract 2 e,s.extract e s.size,b0==1⟩
def rH (s:ByteArray):Option bn:=match s.data.toList with
 |b0::b1::_=>if decide (s.size<2+b1.toNat)||decide (1<b0.toNat)then none else if (aR (SL s b0 (2+b1.toNat))).isSome then none else some (SL s b0 (2+b1.toNat))
 |_=>none
def CJ:bn:=⟨⟨#[]⟩,⟨#[]⟩,false⟩
def Es (s:ByteArray):Option Int:=if (rH s).isSome then none else some 4
theorem j7 {fn:Func} {p u:Tmp} (h:fn.results=#[.cell p 86,.tmp u]) (tmps:Array Value) (w:World) (g:Nat) (a b c:Value) {v:Value}
 (hp:tmps.getD p undef=.pointer (some ⟨g,0,none⟩)) (AW:tmps.getD u undef=v) (hg:w.heap[g]? = some (.cells #[a,b,c] 86 (0,0))):
 (results fn tmps).run prog w=.ok (.tuple #[.agg #[a,b,c],v]) w:=by
 have hr:=run_loadVar_row (P:=prog) w g 86 86 #[a,b,c] (0,0) _ hg underlying86 rfl (by kernel_rfl);rw[Array.getD_eq_getD_getElem?]at hp AW;simp only[results,h];simp[Sem.run_bind,Result.andThen,hp,AW,asAddr,hr]
def pS (s:ByteArray) (w:World) (e:Ending) (w':World):Prop:=e=.returned (.tuple #[MW ((rH s).getD CJ),bH (Es s)])/\Below w.heap.size w w'
theorem two_bytes {s:ByteArray} {b0 b1:UInt8} {r:List UInt8} (h:s.data.toList=b0::b1::r):∃(h0:0<s.size) (h1:1<s.size),s[0]=b0/\s[1]=b1/\(s.extract 0 1).toList=[b0]:=by
 have hs:s=⟨(b0::b1::r).toArray⟩:=by rw[<-h,Eu]
 subst hs;refine⟨by show 0<(b0::b1::r).toArray.size;simp,by show 1<(b0::b1::r).toArray.size;simp,rfl,rfl,?_⟩;rw[ByteArray.extract_mk,ByteArray.toList_mk];rfl
theorem l8 (s:ByteArray) (hs63:s.size<=4000000000) (w:World):Calls prog 161 #[.string s] w fun e w'=>pS s w e w':=by
 unfold pS Es rH;obtain⟨B,hB⟩:=aa w.heap.size;have H1:aw w (w.alloc (.cells #[.string ⟨#[]⟩,.string ⟨#[]⟩,.bool false] 86)) [.cell B 86 [.string ⟨#[]⟩,.string ⟨#[]⟩,.bool false]]:=by rw[<-hB];exact(aw.init w).aY 86 [.string ⟨#[]⟩,.string ⟨#[]⟩,.bool false]
 have iD:(w.alloc (.cells #[.string ⟨#[]⟩,.string ⟨#[]⟩,.bool false] 86)).heap[B]? = some (.cells #[.string ⟨#[]⟩,.string ⟨#[]⟩,.bool false] 86 (0,0)):=H1.cw ae;have Hw1:=aq iD;have Ci:=aq H1.below;have yN:=aq H1;clear iD H1
 cases hl:s.data.toList with
 |nil=>
  have gP:s.size=0:=by show s.data.toList.length=0;rw[hl];rfl
  have hz:(s.size:Int)<2:=by omega
  clear hl gP;go_enter func161,ntmps161;go_wp2_with fail;exact bodyPost_ret (j7 (p:=2) (u:=3) rfl _ _ B _ _ _ rfl rfl (an Hw1)) rfl ⟨rfl,by first|exact an Ci|(rw[<-hB];exact an Ci)|(rw[hB];exact an Ci)⟩
 |cons b0 l1=>
 cases l1 with
 |nil=>
  have gP:s.size=1:=by show s.data.toList.length=1;rw[hl];rfl
  have hz:(s.size:Int)<2:=by omega
  clear hl gP;go_enter func161,ntmps161;go_wp2_with fail;exact bodyPost_ret (j7 (p:=2) (u:=3) rfl _ _ B _ _ _ rfl rfl (an Hw1)) rfl ⟨rfl,by first|exact an Ci|(rw[<-hB];exact an Ci)|(rw[hB];exact an Ci)⟩
 |cons b1 r=>
  obtain⟨h0,h1,e0,e1,ex⟩:=two_bytes hl;have fD:¬(s.size:Int)<2:=by omega
  obtain⟨k1,ji⟩:=aa b1.toNat;obtain⟨k0,jd⟩:=aa b0.toNat;have agt:k1<256:=by rw[<-ji];exact b1.toNat_lt
  have e1':(s[1]).toNat=k1:=by rw[e1,ji]
  have e0':(s[0]).toNat=k0:=by rw[e0,jd]
  have KZ:(b0==1)=decide (k0=1):=by
   rw[<-jd]
   by_cases hb:b0=1
   ·subst hb;rfl
   ·have h9:b0.toNat≠1:=fun h=>hb (UInt8.toNat_inj.1 h)
    rw[decide_eq_false h9];simpa using hb
  have OH:(b0==0)=decide (k0=0):=by
   rw[<-jd]
   by_cases hb:b0=0
   ·subst hb;rfl
   ·have h9:b0.toNat≠0:=fun h=>hb (UInt8.toNat_inj.1 h)
    rw[decide_eq_false h9];simpa using hb
  simp only[ji,jd];obtain⟨ek,hek⟩:=aa (2+k1);have hekz:(2:Int)+(k1:Int)=(ek:Int):=by omega
  rw[hek];clear e0 e1 hl
  by_cases hlong:s.size<ek
  ·have Rj:(s.size:Int)<(ek:Int):=by omega
   rw[decide_eq_true hlong];simp only[Bool.true_or,if_true,Option.isSome_none,Bool.false_eq_true,if_false,Option.getD_none];have Ov:k0<=1∨1<k0:=by omega
   clear ex KZ OH hek
   rcases Ov with Ov|Ov
   all_goals
    have hspz:True:=trivial;go_enter func161,ntmps161;go_wp2_with fail;exact bodyPost_ret (j7 (p:=2) (u:=3) rfl _ _ B _ _ _ rfl rfl (an Hw1)) rfl ⟨rfl,by first|exact an Ci|(rw[<-hB];exact an Ci)|(rw[hB];exact an Ci)⟩
  ·have Rj:¬(s.size:Int)<(ek:Int):=by omega
   rw[decide_eq_false hlong]
   by_cases hk:1<k0
   ·rw[decide_eq_true hk];simp only[Bool.or_true,if_true,Option.isSome_none,Bool.false_eq_true,if_false,Option.getD_none];have hb0a:(b0==0)=false:=by rw[OH];exact decide_eq_false (by omega)
    have hb1a:(b0==1)=false:=by rw[KZ];exact decide_eq_false (by omega)
    have TX:(1:Int)<(k0:Int):=by omega
    clear KZ OH hek;go_enter func161,ntmps161;go_wp2_with fail;exact bodyPost_ret (j7 (p:=2) (u:=3) rfl _ _ B _ _ _ rfl rfl (an Hw1)) rfl ⟨rfl,by first|exact an Ci|(rw[<-hB];exact an Ci)|(rw[hB];exact an Ci)⟩
   ·rw[decide_eq_false hk];simp only[Bool.or_self,Bool.false_eq_true,if_false];obtain⟨c,hc⟩:=aa (SL s b0 ek);rw[hc];have agG:s.extract 2 ek=c.az:=by rw[<-hc];rfl
    have agE:s.extract ek s.size=c.val:=by rw[<-hc];rfl
    have Va:c.gone=decide (k0=1):=by rw[<-hc,<-KZ];rfl
    have H2:=(an yN).drew.aY 86 (zh c);have ux:(w.alloc (.cells #[.string ⟨#[]⟩,.string ⟨#[]⟩,.bool false] 86)).drew.heap.size=B+1:=by show(w.alloc _).heap.size=B+1;rw[World.size_alloc,hB]
    rw[ux]at H2;have ri:=aq H2;have ec:=fun wx=>sq c wx
    unfold MW at ec ⊢;obtain⟨az,val,gone⟩:=c;simp only[zh]at *;have HX:=aq ((an ri).below);have Fh:k0=0∨k0=1:=by omega
    clear H2 ux hc hek yN HX
    cases hp:aR ⟨az,val,gone⟩with
    |some kk=>
     have hkp:=Lu _ kk hp;rw[hp]at ec;simp only[bH,Option.isSome_some,if_true,Option.getD_none,Option.isSome_none,Bool.false_eq_true,if_false,Option.getD_some]at ec ⊢;have EC:=aq ec;clear ec hp
     rcases Fh with Fh|Fh
     all_goals
      subst Fh;simp only[Nat.reduceEqDiff,decide_true,decide_false,Nat.zero_ne_one,Nat.one_ne_zero]at KZ OH Va;subst Va;go_enter func161,ntmps161;go_wp2_with fail
      go_region
      all_goals
       go_wp2_with fail
       refine(an EC _).mono ?_;rintro e w3 ⟨rfl,hQ⟩;have H3:=(an ri).over hQ;obtain⟨y0,y1,y2⟩:=(⟨H3.cellAt (b:=B) (j:=0) af rfl,H3.cellAt (b:=B) (j:=1) af rfl,H3.cellAt (b:=B) (j:=2) af rfl⟩:w3.cell? ⟨B,0,none⟩=some (.string ⟨#[]⟩)/\w3.cell? ⟨B,1,none⟩=some (.string ⟨#[]⟩)/\w3.cell? ⟨B,2,none⟩=some (.bool false));have z0:=H3.frozenAt (b:=B) af 0;have z1:=H3.frozenAt (b:=B) af 1;have z2:=H3.frozenAt (b:=B) af 2;have h4:=((H3.store [_] 0 (.string ⟨#[]⟩) _ rfl).store [_] 1 (.string ⟨#[]⟩) _ rfl).store [_] 2 (.bool false) _ rfl
       have H4:=aq h4;clear H3 h4 hQ;go_wp2_with fail;exact bodyPost_ret (j7 (p:=2) (u:=3) rfl _ _ B _ _ _ rfl rfl ((an H4).cw af)) rfl ⟨rfl,by first|exact(an H4).below|(rw[<-hB];exact(an H4).below)|(rw[hB];exact(an H4).below)⟩
    |none=>
     rw[hp]at ec;simp only[bH,Option.isSome_none,Bool.false_eq_true,if_false,Option.getD_none,Option.isSome_some,if_true,Option.getD_some]at ec ⊢;have EC:=aq ec;clear ec hp
     rcases Fh with Fh|Fh
     ·subst Fh;simp only[Nat.reduceEqDiff,decide_true,decide_false,Nat.zero_ne_one,Nat.one_ne_zero]at KZ OH Va;subst Va;go_enter func161,ntmps161;go_wp2_with fail
      go_region
      all_goals
       go_wp2_with fail
       refine(an EC _).mono ?_;rintro e w3 ⟨rfl,hQ⟩;have H3:=(an ri).over hQ;obtain⟨y0,y1,y2⟩:=(⟨H3.cellAt (b:=B) (j:=0) af rfl,H3.cellAt (b:=B) (j:=1) af rfl,H3.cellAt (b:=B) (j:=2) af rfl⟩:w3.cell? ⟨B,0,none⟩=some (.string ⟨#[]⟩)/\w3.cell? ⟨B,1,none⟩=some (.string ⟨#[]⟩)/\w3.cell? ⟨B,2,none⟩=some (.bool false));have x0:=H3.cellAt (b:=B+1) (j:=0) ae rfl;have x1:=H3.cellAt (b:=B+1) (j:=1) ae rfl;have x2:=H3.cellAt (b:=B+1) (j:=2) ae rfl;have z0:=H3.frozenAt (b:=B) af 0
       have z1:=H3.frozenAt (b:=B) af 1;have z2:=H3.frozenAt (b:=B) af 2;have h4:=((H3.store [_] 0 (.string az) _ rfl).store [_] 1 (.string val) _ rfl).store [_] 2 (.bool false) _ rfl;have H4:=aq h4;clear H3 h4 hQ;go_wp2_with fail;exact bodyPost_ret (j7 (p:=2) (u:=3) rfl _ _ B _ _ _ rfl rfl ((an H4).cw af)) rfl ⟨rfl,by first|exact(an H4).below|(rw[<-hB];exact(an H4).below)|(rw[hB];exact(an H4).below)⟩
     ·subst Fh;simp only[Nat.reduceEqDiff,decide_true,decide_false,Nat.zero_ne_one,Nat.one_ne_zero]at KZ OH Va;subst Va;go_enter func161,ntmps161;go_wp2_with fail
      go_region
      all_goals
       go_wp2_with fail
       refine(an EC _).mono ?_;rintro e w3 ⟨rfl,hQ⟩;have H3:=(an ri).over hQ;obtain⟨y0,y1,y2⟩:=(⟨H3.cellAt (b:=B) (j:=0) af rfl,H3.cellAt (b:=B) (j:=1) af rfl,H3.cellAt (b:=B) (j:=2) af rfl⟩:w3.cell? ⟨B,0,none⟩=some (.string ⟨#[]⟩)/\w3.cell? ⟨B,1,none⟩=some (.string ⟨#[]⟩)/\w3.cell? ⟨B,2,none⟩=some (.bool false));have x0:=H3.cellAt (b:=B+1) (j:=0) ae rfl;have x1:=H3.cellAt (b:=B+1) (j:=1) ae rfl;have x2:=H3.cellAt (b:=B+1) (j:=2) ae rfl;have z0:=H3.frozenAt (b:=B) af 0
       have z1:=H3.frozenAt (b:=B) af 1;have z2:=H3.frozenAt (b:=B) af 2;have h4:=((H3.store [_] 0 (.string az) _ rfl).store [_] 1 (.string val) _ rfl).store [_] 2 (.bool true) _ rfl;have H4:=aq h4;clear H3 h4 hQ;go_wp2_with fail;exact bodyPost_ret (j7 (p:=2) (u:=3) rfl _ _ B _ _ _ rfl rfl ((an H4).cw af)) rfl ⟨rfl,by first|exact(an H4).below|(rw[<-hB];exact(an H4).below)|(rw[hB];exact(an H4).below)⟩
end Go.Proofs.YtphcnmlbieokoaaGreatDoor.S
