import Derived.Test.YtphcnmlbieokoaaGreatDoorC5
import Derived.Lib.Strings
set_option maxRecDepth 100000
set_option maxHeartbeats 16000000
set_option linter.unusedVariables false
set_option linter.unusedSimpArgs false
namespace Go.Proofs.YtphcnmlbieokoaaGreatDoor.T
open Go.RowKit List
theorem jS:∀a b:List UInt8,Op.bytesLess a b=decide (Go.Lib.compareBytes a b<0)
 |[],[]=>by simp[Op.bytesLess,Go.Lib.compareBytes]
 |[],_::_=>by simp[Op.bytesLess,Go.Lib.compareBytes]
 |_::_,[]=>by simp[Op.bytesLess,Go.Lib.compareBytes]
 |x::a,y::b=>by
  have ih:=jS a b;unfold Op.bytesLess Go.Lib.compareBytes
  by_cases h1:x<y
  ·simp[h1]
  ·by_cases h2:y<x
   ·have h3:¬(x=y):=fun e=>by subst e;exact h1 h2
    simp[h1,h2,h3]
   ·have h3:x=y:=by
     rw[UInt8.lt_iff_toNat_lt]at h1 h2;exact UInt8.toNat_inj.1 (by omega)
    subst h3;simp[h1,ih]
theorem kQ (a b:ByteArray):Op.bytesLess a.toList b.toList=decide (dR a b):=by
 rw[jS,Go.Lib.toList_data,Go.Lib.toList_data];rfl
theorem fv (a b:ByteArray):a.toList=b.toList↔a=b:=by
 rw[Go.Lib.toList_data,Go.Lib.toList_data]
 constructor
 ·intro h
  cases a;cases b
  simp only at h
  congr 1
  exact Array.toList_inj.1 h
 ·rintro rfl;rfl
theorem oi {a b:ByteArray} (h:dR b a):Op.bytesLess a.toList b.toList=false/\¬(a.toList=b.toList):=by
 rw[kQ,fv];exact⟨by simp[jC h],fun e=>eH b (by rw[e]at h;exact h)⟩
theorem qE {a b:ByteArray} (h:¬dR b a):¬(Op.bytesLess a.toList b.toList=false/\¬(a.toList=b.toList)):=by
 rw[kQ,fv];rintro⟨h1,h2⟩
 rcases mH a b with h3|h3|h3
 ·simp[h3]at h1
 ·exact h2 h3
 ·exact h h3
def tell (more:List aG->Bool):List aG->List aG->List aG×Bool
 |acc,[]=>(acc,true)
 |acc,x::xs=>if more (acc++[x])then tell more (acc++[x]) xs else(acc++[x],false)
theorem zX (more:List aG->Bool) (acc:List aG):tell more acc []=(acc,true):=rfl
theorem kh (more:List aG->Bool) (acc:List aG) (x:aG) (xs:List aG):tell more acc (x::xs)=if more (acc++[x])then tell more (acc++[x]) xs else(acc++[x],false):=rfl
theorem ru (more:List aG->Bool):∀(xs ys acc:List aG),tell more acc (xs++ys)=if (tell more acc xs).2 then tell more (tell more acc xs).1 ys else tell more acc xs
 |[],ys,acc=>rfl
 |x::xs,ys,acc=>by
  simp only[cons_append,kh]
  by_cases h:more (acc++[x])=true
  ·simp only[if_pos h];exact ru more xs ys _
  ·simp only[if_neg h];simp
theorem rq (more:List aG->Bool):∀(xs acc:List aG),(tell more acc xs).1.length<=acc.length+xs.length
 |[],acc=>by simp[zX]
 |x::xs,acc=>by
  rw[kh]
  split
  ·have:=rq more xs (acc++[x]);simp at this ⊢;omega
  ·simp
theorem lZ (a b:List aG) (az:ByteArray):bC (a++b) az=bC a az++bC b az:=by simp[bC]
theorem ij (x:aG) (b:List aG) (az:ByteArray):bC (x::b) az=if dR az x.az then x::bC b az else bC b az:=by
 simp only[bC,filter_cons]
 by_cases h:dR az x.az<;>simp[h]
theorem tS (a:List aG) (az:ByteArray):(bC a az).length<=a.length:=length_filter_le _ _
theorem BN {a:List aG} {az:ByteArray} (h:∀i∈a,dR i.az az):bC a az=[]:=by
 unfold bC;rw[filter_eq_nil_iff];intro i hi;simp[jC (h i hi)]
def fT (aQ:List aG) (ls:List (List aG)) (j:Nat):List aG:=inter (aQ.drop j) (ls.drop j)
theorem sH (aQ:List aG) (j:Nat):fT aQ [] j=aQ.drop j:=by
 unfold fT;rw[List.drop_nil,cJ]
theorem sJ {aQ:List aG} {ls:List (List aG)} (hl:ls.length=aQ.length+1) {j:Nat} {l:List aG} {x:aG} (h1:ls[j]? = some l) (h2:aQ[j]? = some x):fT aQ ls j=l++x::fT aQ ls (j+1):=by
 unfold fT;obtain⟨g1,rfl⟩:=List.getElem?_eq_some_iff.1 h1;obtain⟨g2,rfl⟩:=List.getElem?_eq_some_iff.1 h2;rw[drop_eq_getElem_cons g1,drop_eq_getElem_cons g2];rfl
theorem sI {aQ:List aG} {ls:List (List aG)} (hl:ls.length=aQ.length+1) {l:List aG} (h1:ls[aQ.length]? = some l):fT aQ ls aQ.length=l:=by
 unfold fT;obtain⟨g1,rfl⟩:=List.getElem?_eq_some_iff.1 h1;rw[drop_eq_getElem_cons g1,drop_length];rfl
theorem ve {aQ:List aG} {ls:List (List aG)} (hl:ls.length=aQ.length+1):fT aQ ls (aQ.length+1)=[]:=by
 unfold fT;rw[drop_eq_nil_of_le (by omega),drop_eq_nil_of_le (by omega)];rfl
theorem xV (aQ:List aG) (ls:List (List aG)) (j:Nat) (hl:ls=[]∨ls.length=aQ.length+1) (hj:j<=aQ.length):(fT aQ ls j).length<=(inter aQ ls).length:=by
 rcases hl with rfl|hl
 ·rw[sH,cJ,length_drop];omega
 ·have h1:aQ=aQ.take j++aQ.drop j:=(take_append_drop _ _).symm
  obtain⟨l,y,h2⟩:∃l y,ls.drop j=l::y:=by
   cases h:ls.drop j with
   |nil=>have:=congrArg List.length h;simp at this;omega
   |cons l y=>exact⟨l,y,rfl⟩
  have h3:ls=ls.take j++l::y:=by rw[<-h2,take_append_drop]
  have h4:y.length+1=ls.length-j:=by have:=congrArg List.length h2;simp at this;omega
  have e:=dj (aQ.take j) (ls.take j) (aQ.drop j) l y (by simp;omega) (by simp;omega);rw[<-h3,<-h1]at e;unfold fT;rw[e,h2,qw _ l y (by simp;omega)];simp only[length_append];omega
theorem qJ {aQ:List aG} {ls:List (List aG)} {az:ByteArray} {at':Nat} (hl:ls=[]∨ls.length=aQ.length+1) (hs:bf (inter aQ ls)) (ha:at'<=aQ.length) (nt:∀i∈aQ.take at',dR i.az az):bC (inter aQ ls) az=bC (fT aQ ls at') az:=by
 rcases hl with rfl|hl
 ·rw[sH,cJ];have e:aQ=aQ.take at'++aQ.drop at':=(take_append_drop _ _).symm;have e2:bC aQ az=bC (aQ.take at'++aQ.drop at') az:=by rw[<-e]
  rw[e2,lZ,BN nt,nil_append]
 ·have h1:aQ=aQ.take at'++aQ.drop at':=(take_append_drop _ _).symm
  obtain⟨l,y,h2⟩:∃l y,ls.drop at'=l::y:=by
   cases h:ls.drop at' with
   |nil=>have:=congrArg List.length h;simp at this;omega
   |cons l y=>exact⟨l,y,rfl⟩
  have h3:ls=ls.take at'++l::y:=by rw[<-h2,take_append_drop]
  have h4:y.length+1=ls.length-at':=by have:=congrArg List.length h2;simp at this;omega
  have e:=dj (aQ.take at') (ls.take at') (aQ.drop at') l y (by simp;omega) (by simp;omega);rw[<-h3,<-h1]at e
  have hr:fT aQ ls at'=l++post (aQ.drop at') y:=by unfold fT;rw[h2,qw _ l y (by simp;omega)]
  rw[e,append_assoc]at hs;rw[e,hr,append_assoc,lZ,BN (zt (by simp;omega) hs nt),nil_append]
theorem aw.Hh {au:Nat} {w0 w:World} {K0:Nat->Nat} (l1:List aI) {h:Nat} {k:bQ} {l2:List aI} (H:aw au w0 K0 w (l1++.sub h k::l2)):
 ∃aQ aM v0 v1,k.c=aQ.length/\k.L=inter aQ (aM.map bQ.L)/\Shape h aQ aM/\(∀x∈aM,Fit x)/\(∀x,k.own x=one k.b x+eR v0 x+eR v1 x+owns aM x)/\aw au w0 K0 w (l1++aK k.b v0 v1::aO v0 aQ::bg v1 aM::.subs (h-1) aM::l2):=by
 have hs:Sub au w h k:=H.sat (.sub h k) (by simp);obtain⟨aQ,aM,v0,v1,hn,hk,hf⟩:=hs.open
 have gX:Shape h aQ aM/\∀x∈aM,Sub au w (h-1) x:=by
  cases h with
  |zero=>obtain rfl:aM=[]:=hk;exact⟨.inl ⟨rfl,rfl⟩,by simp⟩
  |succ h=>exact⟨.inr ⟨by omega,hk.1⟩,hk.2⟩
 refine⟨aQ,aM,v0,v1,hn.c,hn.L,gX.1,hf,hn.own,H.conv (fun x=>?_) (fun r hr=>?_)⟩
 ·simp only[ay,ax,aK,aO,bg,bM,dD,eV,dI];rw[hn.own x];omega
 ·simp only[mem_append,mem_cons]at hr
  rcases hr with hr|rfl|rfl|rfl|rfl|hr
  ·exact H.sat r (by simp[hr])
  ·exact⟨hn.low,hn.cell⟩
  ·exact hn.items
  ·exact hn.below
  ·exact gX.2
  ·exact H.sat r (by simp[hr])
theorem aw.ry {au:Nat} {w0 w:World} {K0:Nat->Nat} (l1:List aI) {h:Nat} {k:bQ} {aQ:List aG} {aM:List bQ} {v0 v1:Value} {l2:List aI} (H:aw au w0 K0 w (l1++aK k.b v0 v1::aO v0 aQ::bg v1 aM::.subs (h-1) aM::l2)) (hc:k.c=aQ.length) (hL:k.L=inter aQ (aM.map bQ.L)) (gX:Shape h aQ aM) (hf:∀x∈aM,Fit x) (ho:∀x,k.own x=one k.b x+eR v0 x+eR v1 x+owns aM x):
 aw au w0 K0 w (l1++.sub h k::l2):=by
 have hu:∀x,k.own x<=1:=fun x=>by have:=H.uniq x;simp only[ay,ax,aK,aO,bg,bM,dD,eV,dI]at this;rw[ho x];omega
 have hn:lQ au w k aQ aM v0 v1:=
  ⟨(H.sat (aK k.b v0 v1) (by simp)).2,(H.sat (aK k.b v0 v1) (by simp)).1,H.sat (aO v0 aQ) (by simp),H.sat (bg v1 aM) (by simp),hc,hL,ho,hu⟩
 have hk:∀x∈aM,Sub au w (h-1) x:=H.sat (.subs (h-1) aM) (by simp);refine H.conv (fun x=>?_) (fun r hr=>?_)
 ·simp only[ay,ax,aK,aO,bg,bM,dD,eV,dI];rw[ho x];omega
 ·simp only[mem_append,mem_cons]at hr
  rcases hr with hr|rfl|hr
  ·exact H.sat r (by simp[hr])
  ·refine Sub.shut hn ?_ hf
   rcases gX with⟨rfl,rfl⟩|⟨hp,hl⟩
   ·rfl
   ·obtain⟨h',rfl⟩:∃h',h=h'+1:=⟨h-1,by omega⟩;exact⟨hl,hk⟩
  ·exact H.sat r (by simp[hr])
theorem nX {w:World} {au:Nat} {e:TypeId} {k:Nat} {v:Value} {n:Nat} {xs:List Value} (h:w.ownsRow au e k v n xs):∃p aU,v=.slice p n aU:=by
 rcases h.2 with⟨rfl,rfl⟩|⟨g,aU,cur,rfl,_⟩
 ·exact⟨_,_,rfl⟩
 ·exact⟨_,_,rfl⟩
theorem aw.Q9 {au:Nat} {w0 w:World} {K0:Nat->Nat} (rs:List aI) {A B C:aI} {h:Nat} {b8 cq:List bQ} {kk:bQ} {l2:List aI} (H:aw au w0 K0 w (rs++A::B::C::.subs h (b8++kk::cq)::l2)):aw au w0 K0 w (rs++.sub h kk::A::B::C::.subs h (b8++cq)::l2):=by
 have hk:∀x∈b8++kk::cq,Sub au w h x:=H.sat (.subs h (b8++kk::cq)) (by simp);refine H.conv (fun x=>?_) (fun r hr=>?_)
 ·simp only[ay,ax,eV,dI,jr,iQ];omega
 ·simp only[mem_append,mem_cons]at hr
  rcases hr with hr|rfl|rfl|rfl|rfl|rfl|hr
  ·exact H.sat r (by simp[hr])
  ·exact hk kk (by simp)
  ·exact H.sat _ (by simp)
  ·exact H.sat _ (by simp)
  ·exact H.sat _ (by simp)
  ·exact fun x hx=>hk x (by simp at hx ⊢;rcases hx with h|h<;>simp[h])
  ·exact H.sat r (by simp[hr])
theorem aw.Wc {au:Nat} {w0 w:World} {K0:Nat->Nat} (rs:List aI) {A B C:aI} {h:Nat} {b8 cq:List bQ} {kk:bQ} {l2:List aI} (H:aw au w0 K0 w (rs++.sub h kk::A::B::C::.subs h (b8++cq)::l2)):aw au w0 K0 w (rs++A::B::C::.subs h (b8++kk::cq)::l2):=by
 have hk:∀x∈b8++cq,Sub au w h x:=H.sat (.subs h (b8++cq)) (by simp);have ll:Sub au w h kk:=H.sat (.sub h kk) (by simp);refine H.conv (fun x=>?_) (fun r hr=>?_)
 ·simp only[ay,ax,eV,dI,jr,iQ];omega
 ·simp only[mem_append,mem_cons]at hr
  rcases hr with hr|rfl|rfl|rfl|rfl|hr
  ·exact H.sat r (by simp[hr])
  ·exact H.sat _ (by simp)
  ·exact H.sat _ (by simp)
  ·exact H.sat _ (by simp)
  ·intro x hx;simp at hx
   rcases hx with h1|rfl|h1
   ·exact hk x (by simp[h1])
   ·exact ll
   ·exact hk x (by simp[h1])
  ·exact H.sat r (by simp[hr])
def Te (au:Nat) (w0:World) (K0:Nat->Nat) (S:List aG->List aI->Prop) (more:List aG->Bool) (acc:List aG) (it:aG) (l2:List aI) (e:Ending) (w':World):Prop:=
 ∃rs',e=.returned (.bool (more (acc++[it])))/\S (acc++[it]) rs'/\aw au w0 K0 w' (rs'++l2)
def tf (au:Nat) (w0:World) (K0:Nat->Nat) (S:List aG->List aI->Prop) (more:List aG->Bool) (az:ByteArray) (h:Nat) (k:bQ) (acc:List aG) (l2:List aI) (e:Ending) (w':World):Prop:=
 ∃rs',e=.returned (.bool (tell more acc (bC k.L az)).2)/\S (tell more acc (bC k.L az)).1 rs'/\aw au w0 K0 w' (rs'++.sub h k::l2)
open Go.Lib Go.Proofs.Tryz
def R5 (au:Nat) (w0:World) (K0:Nat->Nat) (fi:FuncId) (cs:Array Value) (S:List aG->List aI->Prop) (more:List aG->Bool):Prop:=
 ∀(w:World) (acc:List aG) (rs:List aI) (it:aG) (l2:List aI),S acc rs->acc.length<1000->aw au w0 K0 w (rs++l2)->
  Calls prog fi (#[.agg #[.string it.name,.int .i64 it.aN]]++cs) w fun e w'=>Te au w0 K0 S more acc it l2 e w'
def aav (au:Nat) (w0:World) (K0:Nat->Nat) (fi:FuncId) (cs:Array Value) (S:List aG->List aI->Prop) (more:List aG->Bool) (az:ByteArray) (h:Nat):Prop:=
 ∀(w:World) (k:bQ) (acc:List aG) (rs:List aI) (l2:List aI),S acc rs->acc.length+k.L.length<=1000->aw au w0 K0 w (rs++.sub h k::l2)->bf k.L->k.c<=3->
  Calls prog 131 #[.pointer (some ⟨k.b,0,none⟩),.string az,.func (.func fi) #[] cs] w fun e w'=>tf au w0 K0 S more az h k acc l2 e w'
theorem aaz (au:Nat) (w0:World) (K0:Nat->Nat) (fi:FuncId) (cs:Array Value) (S:List aG->List aI->Prop) (more:List aG->Bool) (az:ByteArray) (DX:∀(args:Array Value) (w:World),(callFunc fi args).run prog w=.ok (.enter fi args) w) (qz:R5 au w0 K0 fi cs S more) (w:World) (k:bQ) (iB:List aG) (Ei:List aI) (l2:List aI) (hS:S iB Ei) (hlen:iB.length+k.L.length<=1000) (H:aw au w0 K0 w (Ei++.sub 0 k::l2)) (hs:bf k.L) (hc:k.c<=3):
 Calls prog 131 #[.pointer (some ⟨k.b,0,none⟩),.string az,.func (.func fi) #[] cs] w fun e w'=>tf au w0 K0 S more az 0 k iB l2 e w':=by
 obtain⟨aQ,aM,v0,v1,kD,hL,gX,fQ,ft,H1⟩:=H.Hh Ei;have jd:aM=[]:=by rcases gX with⟨_,h⟩|⟨h,_⟩;exact h;omega
 subst jd;simp only[map_nil,cJ]at hL;obtain⟨b,hb⟩:=aa k.b;obtain⟨n,hn⟩:=aa aQ.length;have Ge:n<=3:=by omega
 rw[hL]at hs hlen;rw[hb]at H1 ⊢;have e1:=jw b v0 aQ az w (H1.cellAt (b:=b) (t:=241) (vs:=[v0,v1]) (by simp[aK]) (j:=0) rfl) au (H1.rowAt (by simp[aO])) hs (by omega);have E1:=aq e1;have HH:=aq H1;have HS:=aq hS;have LM:=aq qz;have Hs:=aq hs;have HL:=aq hL;have oZ:=aq kD;have nI:=aq ft;have Hb:=aq hb;have Hn:=aq hn;clear e1 H H1 hS qz hs hL kD ft gX fQ hb hn;go_enter func131,ntmps131;go_wp2_with fail;refine(an E1).mono ?_;rintro e w2 ⟨at',qv,rfl,hF,hB⟩;have H3:=aq ((an HH).below hB)
 have Zo:at'<=n:=by have:=an Hn;have:=hF.1;omega
 have mW:Hid (tell more iB (bC aQ az)=tell more iB (bC (aQ.drop at') az)):=by have:=qJ (aQ:=aQ) (ls:=[]) (az:=az) (.inl rfl) (by rw[cJ];exact an Hs) hF.1 hF.2.1;rw[cJ,sH]at this;show _=_;rw[this]
 clear HH hB E1 hF;go_wp2_with fail
 go_loopg [9] (n+2) (fun g vi wr=>∃(i:Nat) (acc:List aG) (rs:List aI),n+1-i<g/\i<=n+1/\vi=.int .i64 i/\acc.length+(aQ.drop i).length<=1000/\Hid (S acc rs)/\Hid (tell more iB (bC aQ az)=tell more acc (bC (aQ.drop i) az))/\Hid (aw au w0 K0 wr (rs++aK b v0 v1::aO v0 aQ::bg v1 []::.subs (0-1) []::l2)))
 case atStart=>exact⟨at',iB,Ei,by omega,by omega,rfl,by rw[length_drop];omega,HS,mW,H3⟩
 case round=>
  obtain⟨i,acc,rs,hg,hi,rfl,sW,HSr,HT,HR⟩:=hrel;have h4:=an HR;have r0:wr.ownsRow au 238 3 v0 n (flat aQ):=by have:=an Hn;rw[<-this];exact h4.rowAt (by simp[aO])
  have q0:wr.cell? ⟨b,0,none⟩=some v0:=h4.cellAt (t:=241) (vs:=[v0,v1]) (by simp[aK]) rfl;have q1:wr.cell? ⟨b,1,none⟩=some v1:=h4.cellAt (t:=241) (vs:=[v0,v1]) (by simp[aK]) rfl;have e2:=fj b v0 v1 0 wr q1 au [] (h4.rowAt (by simp[bg])) (by omega);have E2:=aq e2
  by_cases gY:i<n
  ·obtain⟨g0,cap0,qN,lv,hm0⟩:=aZ r0 (by omega);have KP:i<aQ.length:=by have:=an Hn;omega
   obtain⟨x,hx⟩:∃x,aQ[i]? = some x:=⟨_,getElem?_eq_getElem KP⟩;rw[qN]at r0 q0;obtain⟨s1,s2,s3⟩:=iT r0 (j:=i) (x:=x) hx
   have je:aQ.drop i=x::aQ.drop (i+1):=by obtain⟨g2,rfl⟩:=List.getElem?_eq_some_iff.1 hx;exact drop_eq_getElem_cons g2
   have hz:(i:Int)<=(n:Int):=by omega
   have fD:(i:Int)<(n:Int):=by omega
   have nJ:=aq je;clear e2 r0 h4 hx je q1
   by_cases nO:dR az x.az
   ·obtain⟨dJ,cC⟩:=oi nO;have hQ:(x.az.toList==az.toList)=false:=by simp[cC]
    have e3:=an LM wr acc rs x _ (an HSr) (by have:=an nJ;rw[this]at sW;simp at sW;omega) (an HR);obtain⟨S8,hans⟩:=aa (more (acc++[x]));have E3:=aq e3;have HA:=aq hans;clear e3 hans qN;go_wp2_with fail;refine(an E2).mono ?_;rintro e w3 ⟨rfl,rfl⟩;go_wp2_with fail;refine(an E3).mono ?_;rintro e w4 ⟨rs',rfl,hS',H5⟩;rw[an HA];have LR:=aq hS';have PD:=aq H5;clear hS' H5 q0 s1 s2 s3 HR E2 E3
    have rT:tell more iB (bC aQ az)=if S8 then tell more (acc++[x]) (bC (aQ.drop (i+1)) az)else(acc++[x],false):=by rw[an HT,an nJ,ij,if_pos nO,kh,an HA]
    have Tv:=aq rT;clear rT
    cases S8 with
    |true=>
     go_wp2_with fail
     go_roundg (n+1-i)
     case measure=>omega
     case rel=>exact⟨i+1,acc++[x],rs',by omega,by omega,by simp,by have:=an nJ;rw[this]at sW;simp at sW ⊢;omega,LR,(an Tv),PD⟩
    |false=>
     go_wp2_with fail
     go_ret;have hT:=an Tv;simp only[Bool.false_eq_true,if_false]at hT;refine⟨rs',by rw[an HL,hT];rfl,by rw[an HL,hT];exact an LR,aw.ry (v0:=v0) (v1:=v1) rs' (by rw[an Hb];exact an PD) (an oZ) (by rw[an HL];simp[cJ]) (.inl ⟨rfl,rfl⟩) (by simp) (an nI)⟩
   ·have dJ:=qE nO;clear qN;go_wp2_with fail;refine(an E2).mono ?_;rintro e w3 ⟨rfl,rfl⟩;go_wp2_with fail
    go_roundg (n+1-i)
    case measure=>omega
    case rel=>exact⟨i+1,acc,rs,by omega,by omega,by simp,by have:=an nJ;rw[this]at sW;simp at sW ⊢;omega,HSr,(by show _=_;rw[an HT,an nJ,ij,if_neg nO]),HR⟩
  ·obtain⟨p0,cap0,qN⟩:=nX r0;rw[qN]at q0;have y8:aQ.drop i=[]:=drop_eq_nil_of_le (by have:=an Hn;omega);have M6:=aq y8;clear e2 r0 h4 q1 y8 qN;have fD:¬((i:Int)<(n:Int)):=by omega
   by_cases hin2:i<=n
   ·have hz:(i:Int)<=(n:Int):=by omega
    go_wp2_with fail
    refine(an E2).mono ?_;rintro e w3 ⟨rfl,rfl⟩;go_wp2_with fail
    go_roundg (n+1-i)
    case measure=>omega
    case rel=>exact⟨i+1,acc,rs,by omega,by omega,by simp,by have:=an M6;rw[this]at sW;rw[drop_eq_nil_of_le (by have:=an Hn;omega)];exact sW,HSr,(by show _=_;rw[an HT,an M6,drop_eq_nil_of_le (by have:=an Hn;omega)]),HR⟩
   ·have hz:¬((i:Int)<=(n:Int)):=by omega
    go_wp2_with fail
    go_ret;have hT:=an HT;rw[an M6]at hT;refine⟨rs,by rw[an HL,hT];rfl,by rw[an HL,hT];exact an HSr,aw.ry (v0:=v0) (v1:=v1) rs (by rw[an Hb];exact an HR) (an oZ) (by rw[an HL];simp[cJ]) (.inl ⟨rfl,rfl⟩) (by simp) (an nI)⟩
theorem aax (au:Nat) (w0:World) (K0:Nat->Nat) (fi:FuncId) (cs:Array Value) (S:List aG->List aI->Prop) (more:List aG->Bool) (az:ByteArray) (DX:∀(args:Array Value) (w:World),(callFunc fi args).run prog w=.ok (.enter fi args) w) (qz:R5 au w0 K0 fi cs S more) (h:Nat) (ih:aav au w0 K0 fi cs S more az h) (w:World) (k:bQ) (iB:List aG) (Ei:List aI) (l2:List aI) (hS:S iB Ei) (hlen:iB.length+k.L.length<=1000) (H:aw au w0 K0 w (Ei++.sub (h+1) k::l2)) (hs:bf k.L) (hc:k.c<=3):
 Calls prog 131 #[.pointer (some ⟨k.b,0,none⟩),.string az,.func (.func fi) #[] cs] w fun e w'=>tf au w0 K0 S more az (h+1) k iB l2 e w':=by
 obtain⟨aQ,aM,v0,v1,kD,hL,gX,fQ,ft,H1⟩:=H.Hh Ei;have jd:aM.length=aQ.length+1:=by rcases gX with⟨h,_⟩|⟨_,h⟩;omega;exact h
 obtain⟨b,hb⟩:=aa k.b;obtain⟨n,hn⟩:=aa aQ.length;have Ge:n<=3:=by omega
 have ji:(aM.map bQ.L).length=aQ.length+1:=by simpa using jd
 rw[hL]at hs hlen;rw[hb]at H1 ⊢;have e1:=jw b v0 aQ az w (H1.cellAt (b:=b) (t:=241) (vs:=[v0,v1]) (by simp[aK]) (j:=0) rfl) au (H1.rowAt (by simp[aO])) (hs.items (.inr ji)) (by omega);have E1:=aq e1;have HH:=aq H1;have HS:=aq hS;have LM:=aq qz;have IH:=aq ih;have Hs:=aq hs;have HL:=aq hL;have oZ:=aq kD;have nI:=aq ft;have Hb:=aq hb;have Hn:=aq hn;have J4:=aq jd;have rj:=aq ji;have BW:=aq gX;have lq:=aq fQ;have mB:=aq hlen;clear e1 H H1 hS qz ih hs hL kD ft gX fQ hb hn jd ji hlen
 go_enter func131,ntmps131;go_wp2_with fail;refine(an E1).mono ?_;rintro e w2 ⟨at',qv,rfl,hF,hB⟩;have H3:=aq ((an HH).below hB);have Zo:at'<=n:=by have:=an Hn;have:=hF.1;omega
 have mW:Hid (tell more iB (bC (inter aQ (aM.map bQ.L)) az)=tell more iB (bC (fT aQ (aM.map bQ.L) at') az)):=by show _=_;rw[qJ (.inr (an rj)) (an Hs) hF.1 hF.2.1]
 have R9:iB.length+(fT aQ (aM.map bQ.L) at').length<=1000:=by have h1:=an mB;have h2:=xV aQ (aM.map bQ.L) at' (.inr (an rj)) hF.1;omega
 have YT:=aq R9;clear HH hB E1 hF R9;go_wp2_with fail
 go_loopg [9] (n+2) (fun g vi wr=>∃(i:Nat) (acc:List aG) (rs:List aI),n+1-i<g/\i<=n+1/\vi=.int .i64 i/\Hid (acc.length+(fT aQ (aM.map bQ.L) i).length<=1000)/\Hid (S acc rs)/\Hid (tell more iB (bC (inter aQ (aM.map bQ.L)) az)=tell more acc (bC (fT aQ (aM.map bQ.L) i) az))/\Hid (aw au w0 K0 wr (rs++aK b v0 v1::aO v0 aQ::bg v1 aM::.subs h aM::l2)))
 case atStart=>exact⟨at',iB,Ei,by omega,by omega,rfl,YT,HS,mW,H3⟩
 case round=>
  obtain⟨i,acc,rs,hg,hi,rfl,W8,HSr,HT,HR⟩:=hrel;have h4:=an HR;have r0:wr.ownsRow au 238 3 v0 n (flat aQ):=by have:=an Hn;rw[<-this];exact h4.rowAt (by simp[aO])
  have q0:wr.cell? ⟨b,0,none⟩=some v0:=h4.cellAt (t:=241) (vs:=[v0,v1]) (by simp[aK]) rfl;have q1:wr.cell? ⟨b,1,none⟩=some v1:=h4.cellAt (t:=241) (vs:=[v0,v1]) (by simp[aK]) rfl;obtain⟨p0,cap0,qN⟩:=nX r0
  by_cases hin2:i<=n
  ·have hz:(i:Int)<=(n:Int):=by omega
   have r1:wr.ownsRow au 190 1 v1 (n+1) (aM.map fun y=>bK y.b):=by have h1:=an Hn;have h2:=an J4;rw[<-h1,<-h2];exact h4.rowAt (by simp[bg])
   have e2:=fj b v0 v1 (n+1) wr q1 au _ r1 (by omega);rw[show decide (n+1=0)=false from by simp]at e2;have E2:=aq e2;obtain⟨g1,cap1,mv,kE,Dq⟩:=aZ r1 (by omega);have Dt:i<aM.length:=by have h1:=an Hn;have h2:=an J4;omega
   obtain⟨b8,kk,cq,bV,hks1⟩:∃b8 kk cq,aM=b8++kk::cq/\b8.length=i:=⟨aM.take i,aM[i],aM.drop (i+1),by rw[<-drop_eq_getElem_cons Dt,take_append_drop],by rw[length_take];omega⟩;have KO:aM[i]? = some kk:=by rw[bV,<-hks1];simp
   have Fe:(aM.map bQ.L)[i]? = some kk.L:=by rw[getElem?_map,KO];rfl
   rw[mv]at r1 q1;have p1:=fI r1 (j:=i) (k:=kk) KO;have Ce:Fit kk:=an lq kk (by rw[bV];simp)
   obtain⟨rest,kU⟩:∃rest,fT aQ (aM.map bQ.L) i=kk.L++rest:=by
    rcases Nat.lt_or_ge i n with h1|h1
    ·exact⟨_,sJ (an rj) Fe (getElem?_eq_getElem (by have:=an Hn;omega))⟩
    ·refine⟨[],?_⟩;have h2:aQ.length=i:=by have:=an Hn;omega
     rw[<-h2,append_nil];exact sI (an rj) (by rw[h2];exact Fe)
   have II:bf kk.L:=by have h1:=an Hs;rw[bV,map_append,map_cons]at h1;have h2:=dj (aQ.take i) (b8.map bQ.L) (aQ.drop i) kk.L (cq.map bQ.L) (by have:=an Hn;simp;omega) (by have h5:=an J4;rw[bV]at h5;simp at h5 ⊢;omega);rw[take_append_drop]at h2;rw[h2]at h1;exact h1.V8
   have R7:acc.length+kk.L.length<=1000:=by have h1:=an W8;rw[kU,length_append]at h1;omega
   have h5:aw au w0 K0 wr (rs++.sub h kk::aK b v0 v1::aO v0 aQ::bg v1 aM::.subs h (b8++cq)::l2):=by rw[bV]at h4 ⊢;exact h4.Q9 rs
   have e3:=an IH wr kk acc rs _ (an HSr) R7 h5 II Ce.2;have E3:=aq e3;obtain⟨oX,hacc1⟩:=aa ((tell more acc (bC kk.L az)).1);obtain⟨LC,hans1⟩:=aa ((tell more acc (bC kk.L az)).2)
   have R8:oX.length+rest.length<=1000:=by have h1:=an W8;rw[kU,length_append]at h1;have h2:=rq more (bC kk.L az) acc;rw[hacc1]at h2;have h3:=tS kk.L az;omega
   have LQ:Hid (tell more iB (bC (inter aQ (aM.map bQ.L)) az)=if LC then tell more oX (bC rest az)else(oX,false)):=by
    show _=_;rw[an HT,kU,lZ,ru,hacc1,hans1]
    cases LC with
    |true=>rfl
    |false=>simp only[Bool.false_eq_true,if_false];rw[<-hacc1,<-hans1]
   have pT:=aq kU;have FX:=aq R8;have M7:=aq bV;have JM:=aq hacc1;have JL:=aq hans1;have To:=aq Fe;have KJ:=aq qN;have adV:=aq mv;have aaT:(i:Int)<(n:Int)+1:=by omega
   clear e2 e3 r0 r1 h4 h5 kU R8 bV hacc1 hans1 Fe II R7 KO hks1 Ce Dt;rw[qN]at q0;clear qN mv;go_wp2_with fail;refine(an E2).mono ?_;rintro e w3 ⟨rfl,rfl⟩;go_wp2_with fail;refine(an E3).mono ?_;rintro e w4 ⟨rs',rfl,hS',H6⟩;rw[an JL];rw[an JM]at hS'
   have H7:aw au w0 K0 w4 (rs'++aK b v0 v1::aO v0 aQ::bg v1 aM::.subs h aM::l2):=by have hk:=an M7;rw[hk]at H6 ⊢;exact H6.Wc rs'
   have ZN:w4.cell? ⟨b,0,none⟩=some v0:=H7.cellAt (t:=241) (vs:=[v0,v1]) (by simp[aK]) rfl;have ZL:w4.ownsRow au 238 3 v0 n (flat aQ):=by have:=an Hn;rw[<-this];exact H7.rowAt (by simp[aO])
   rw[an KJ]at ZN;have LR:=aq hS';have PC:=aq H7;have YM:=aq ZL;clear hS' H6 H7 q0 q1 p1 HR E2 E3 JL JM HSr HT ZL
   cases LC with
   |false=>
    go_wp2_with fail
    go_ret;have hT:=an LQ;simp only[Bool.false_eq_true,if_false]at hT;refine⟨rs',by rw[an HL,hT];rfl,by rw[an HL,hT];exact an LR,aw.ry (v0:=v0) (v1:=v1) rs' (by rw[an Hb];exact an PC) (an oZ) (an HL) (an BW) (an lq) (an nI)⟩
   |true=>
    have hT:=an LQ;simp only[if_true]at hT;have P9:=aq hT;clear hT LQ
    by_cases gY:i<n
    ·obtain⟨g0,cap0',qN,lv,hm0⟩:=aZ (an YM) (by omega);have Rn:=an KJ;rw[qN]at Rn;injection Rn with hp nN KW;subst hp KW;have KP:i<aQ.length:=by have:=an Hn;omega
     obtain⟨x,hx⟩:∃x,aQ[i]? = some x:=⟨_,getElem?_eq_getElem KP⟩;have US:=an YM;rw[qN]at US;obtain⟨s1,s2,s3⟩:=iT US (j:=i) (x:=x) hx
     have B7:rest=x::fT aQ (aM.map bQ.L) (i+1):=by have h1:=sJ (an rj) (an To) hx;rw[an pT]at h1;exact append_cancel_left h1
     have JG:=aq B7;have fD:(i:Int)<(n:Int):=by omega
     clear US hx B7 qN nN
     by_cases nO:dR az x.az
     ·obtain⟨dJ,cC⟩:=oi nO;have hQ:(x.az.toList==az.toList)=false:=by simp[cC]
      have e4:=an LM w4 oX rs' x _ (an LR) (by have h1:=an FX;rw[an JG]at h1;simp at h1;omega) (an PC);obtain⟨S8,hans⟩:=aa (more (oX++[x]));have E4:=aq e4;have HA:=aq hans;clear e4 hans;go_wp2_with fail;refine(an E4).mono ?_;rintro e w5 ⟨oY,rfl,hS2,H8⟩;rw[an HA];have xL:=aq hS2;have Y3:=aq H8;clear hS2 H8 ZN s1 s2 s3 E4 PC YM
      have rT:tell more iB (bC (inter aQ (aM.map bQ.L)) az)=if S8 then tell more (oX++[x]) (bC (fT aQ (aM.map bQ.L) (i+1)) az)else(oX++[x],false):=by rw[an P9,an JG,ij,if_pos nO,kh,an HA]
      have Tv:=aq rT;clear rT
      cases S8 with
      |true=>
       go_wp2_with fail
       go_roundg (n+1-i)
       case measure=>omega
       case rel=>exact⟨i+1,oX++[x],oY,by omega,by omega,by simp,(by have h1:=an FX;rw[an JG]at h1;show _<=_;simp at h1 ⊢;omega),xL,(an Tv),Y3⟩
      |false=>
       go_wp2_with fail
       go_ret;have hT:=an Tv;simp only[Bool.false_eq_true,if_false]at hT;refine⟨oY,by rw[an HL,hT];rfl,by rw[an HL,hT];exact an xL,aw.ry (v0:=v0) (v1:=v1) oY (by rw[an Hb];exact an Y3) (an oZ) (an HL) (an BW) (an lq) (an nI)⟩
     ·have dJ:=qE nO;go_wp2_with fail
      go_roundg (n+1-i)
      case measure=>omega
      case rel=>exact⟨i+1,oX,rs',by omega,by omega,by simp,(by have h1:=an FX;rw[an JG]at h1;show _<=_;simp at h1 ⊢;omega),LR,(by show _=_;rw[an P9,an JG,ij,if_neg nO]),PC⟩
    ·have fD:¬((i:Int)<(n:Int)):=by omega
     have B7:rest=fT aQ (aM.map bQ.L) (i+1):=by
      have h2:aQ.length=i:=by have:=an Hn;omega
      have h1:=sI (an rj) (by rw[h2];exact an To);rw[h2,an pT]at h1;have h3:rest=[]:=by have h4:=congrArg List.length h1;simp at h4;exact h4
      rw[h3,<-h2,ve (an rj)]
     have JG:=aq B7;clear B7;go_wp2_with fail
     go_roundg (n+1-i)
     case measure=>omega
     case rel=>exact⟨i+1,oX,rs',by omega,by omega,by simp,(by have h1:=an FX;rw[an JG]at h1;exact h1),LR,(by show _=_;rw[an P9,an JG]),PC⟩
  ·have hz:¬((i:Int)<=(n:Int)):=by omega
   rw[qN]at q0;clear r0 h4 q1 qN;go_wp2_with fail;go_ret;have hT:=an HT;rw[show i=aQ.length+1 by have:=an Hn;omega,ve (an rj)]at hT;refine⟨rs,by rw[an HL,hT];rfl,by rw[an HL,hT];exact an HSr,aw.ry (v0:=v0) (v1:=v1) rs (by rw[an Hb];exact an HR) (an oZ) (an HL) (an BW) (an lq) (an nI)⟩
theorem ZE (au:Nat) (w0:World) (K0:Nat->Nat) (fi:FuncId) (cs:Array Value) (S:List aG->List aI->Prop) (more:List aG->Bool) (az:ByteArray) (DX:∀(args:Array Value) (w:World),(callFunc fi args).run prog w=.ok (.enter fi args) w) (qz:R5 au w0 K0 fi cs S more):∀h,aav au w0 K0 fi cs S more az h
 | 0=>fun w k acc rs l2 hS hl H hs hc=>aaz au w0 K0 fi cs S more az DX qz w k acc rs l2 hS hl H hs hc
 |h+1=>fun w k acc rs l2 hS hl H hs hc=>aax au w0 K0 fi cs S more az DX qz h (ZE au w0 K0 fi cs S more az DX qz h) w k acc rs l2 hS hl H hs hc
def sz (au:Nat) (w0:World) (K0:Nat->Nat) (h:Nat) (k:bQ) (it:aG) (l2:List aI) (e:Ending) (w':World):Prop:=
 e=.returned (.tuple #[])/\∃k':bQ,k'.b=k.b/\k'.L=da k.L it/\k.c<=k'.c/\k'.c<=k.c+1/\aw au w0 K0 w' (.sub h k'::l2)
def M3 (h:Nat):Prop:=∀(au:Nat) (w0:World) (K0:Nat->Nat) (w:World) (k:bQ) (it:aG) (l2:List aI),aw au w0 K0 w (.sub h k::l2)->bf k.L->k.c<=3->
 Calls prog 169 #[.pointer (some ⟨k.b,0,none⟩),.agg #[.string it.az,.string it.name,.int .i64 it.aN]] w fun e w'=>sz au w0 K0 h k it l2 e w'
theorem Ad {au:Nat} {w0 w:World} {K0:Nat->Nat} (l1:List aI) {g n aU:Nat} {a c:List aG} {x it:aG} {l2:List aI} (H:aw au w0 K0 w (l1++aO (.slice (some ⟨g,0,none⟩) n aU) (a++x::c)::l2)) {i:Nat} (hi:a.length=i) (hn:(a++x::c).length=n):
 aw au w0 K0 (((w.setCell ⟨g,i*3,none⟩ (.string it.az)).setCell ⟨g,i*3+1,none⟩ (.string it.name)).setCell ⟨g,i*3+2,none⟩ (.int .i64 it.aN)) (l1++aO (.slice (some ⟨g,0,none⟩) n aU) (a++it::c)::l2):=by
 have hr:w.ownsRow au 238 3 (.slice (some ⟨g,0,none⟩) n aU) n (flat (a++x::c)):=by have:=H.rowAt (v:=.slice (some ⟨g,0,none⟩) n aU) (e:=238) (k:=3) (n:=(a++x::c).length) (xs:=flat (a++x::c)) (by simp[aO]);rwa [hn]at this
 obtain⟨r1,g1⟩:=hr.stored (i*3) (.string it.az);obtain⟨r2,g2⟩:=r1.stored (i*3+1) (.string it.name);obtain⟨r3,g3⟩:=r2.stored (i*3+2) (.int .i64 it.aN);rw[Sn _ i it (by simp;omega)]at r3;have e1:(a++x::c).set i it=a++it::c:=by rw[<-hi,set_append_right _ _ (Nat.le_refl _)];simp
 rw[e1]at r3;have e2:n=(a++it::c).length:=by rw[<-hn];simp
 have:=H.grow l1 ((g1.trans g2).trans g3) r3 (.inl rfl)
 show aw au w0 K0 _ (l1++aI.row _ 238 3 (a++it::c).length (flat (a++it::c))::l2);rw[<-e2];exact this
theorem GY (h:Nat) (ih:0<h->M3 (h-1)) (au:Nat) (w0:World) (K0:Nat->Nat) (w:World) (k:bQ) (it:aG) (l2:List aI) (H:aw au w0 K0 w (.sub h k::l2)) (hs:bf k.L) (hc:k.c<=3):
 Calls prog 169 #[.pointer (some ⟨k.b,0,none⟩),.agg #[.string it.az,.string it.name,.int .i64 it.aN]] w fun e w'=>sz au w0 K0 h k it l2 e w':=by
 obtain⟨aQ,aM,v0,v1,kD,hL,gX,fQ,H1⟩:=H.open [];simp only[nil_append]at H1;obtain⟨b,hb⟩:=aa k.b;rw[hb]at H1 ⊢;rw[kD]at hc;rw[hL]at hs;have mg:au<=w.heap.size:=H1.low (b:=b) (t:=241) (vs:=[v0,v1]) (by simp[aK]);have H2:=H1.aY mg 238 (cellsOf it);have e1:=jw b v0 aQ it.az _ (H2.cellAt (b:=b) (t:=241) (vs:=[v0,v1]) (by simp[aK]) (j:=0) rfl) au (H2.rowAt (by simp[aO])) (gX.sorted hs) (by omega);have E1:=aq e1;have HH:=aq H2;have IH:=aq ih;have HS:=aq hs;have HL:=aq hL;have BW:=aq gX
 have lq:=aq fQ;have oZ:=aq kD;have Hb:=aq hb;clear H H1 H2 e1 ih hs hL gX fQ kD hb;go_enter func169,ntmps169;go_wp2_with fail;refine(an E1).mono ?_;rintro e w2 ⟨at',qv,rfl,hF,hB⟩;have H3:=aq ((an HH).below hB);clear HH hB E1;generalize w.heap.size=xb at H3 mg ⊢;obtain⟨n0,oN⟩:=aa aQ.length
 rcases hF.split with⟨rfl,a,x,c,rfl,ha,hx,nt⟩|⟨rfl,a,c,rfl,ha,nt,hhigh⟩
 ·have h3:=an H3;have r0:w2.ownsRow au 238 3 v0 n0 (flat (a++x::c)):=by rw[<-oN];exact h3.rowAt (by simp[aO])
  have Zo:at'<n0:=by rw[<-oN,<-ha];simp
  obtain⟨g0,cap0,rfl,lv,hm0⟩:=aZ r0 (by omega);have q0:w2.cell? ⟨b,0,none⟩=some (.slice (some ⟨g0,0,none⟩) n0 cap0):=h3.cellAt (t:=241) (vs:=[.slice (some ⟨g0,0,none⟩) n0 cap0,v1]) (by simp[aK]) rfl;have q1:w2.cell? ⟨xb,0,none⟩=some (.string it.az):=h3.cellAt (t:=238) (vs:=cellsOf it) (by simp) rfl;have q2:w2.cell? ⟨xb,1,none⟩=some (.string it.name):=h3.cellAt (t:=238) (vs:=cellsOf it) (by simp) rfl;have q3:w2.cell? ⟨xb,2,none⟩=some (.int .i64 it.aN):=h3.cellAt (t:=238) (vs:=cellsOf it) (by simp) rfl;obtain⟨s1,s2,s3⟩:=iT r0 (j:=at') (x:=x) (by rw[<-ha];simp)
  have f1:=r0.frozenAt (at'*3);have f2:=r0.frozenAt (at'*3+1);have f3:=r0.frozenAt (at'*3+2);have hz:(at':Int)<(n0:Int):=by omega
  have HA:=aq ha;have HX:=aq hx;have HN:=aq oN;clear h3 r0 hF nt ha hx oN;go_wp2_with fail
  go_big_region
  go_wp2_with fail
  refine bodyPost_ret (results_none rfl _ _ _) rfl ?_;have H4:=(Ad [.cell xb 238 (cellsOf it),aK b (.slice (some ⟨g0,0,none⟩) n0 cap0) v1] (it:=it) (an H3) (an HA) (an HN)).drew.aD [];have UP:Shape h (a++it::c) aM:=by rcases an BW with⟨h1,h2⟩|⟨h1,h2⟩;exact .inl ⟨h1,h2⟩;exact .inr ⟨h1,by simpa using h2⟩
  obtain⟨k',b1,n1,L1,H5⟩:=H4.shut [] (h:=h) UP (an lq);refine⟨rfl,k',by rw[b1];exact(an Hb).symm,?_,by rw[n1,an oZ];simp,by rw[n1,an oZ];simp,H5⟩
  obtain⟨A,C,e⟩:=Dg a c (aM.map bQ.L) (by
   rcases an BW with⟨h1,h2⟩|⟨h1,h2⟩
   ·exact .inl (by rw[h2];rfl)
   ·exact .inr (by simp at h2 ⊢;omega))
  have hs:=an HS;rw[L1,an HL,e x,e it];rw[e x]at hs;exact(hs.NN (an HX)).symm
 ·have h3:=an H3;have q1:w2.cell? ⟨b,1,none⟩=some v1:=h3.cellAt (t:=241) (vs:=[v0,v1]) (by simp[aK]) rfl;have r1:w2.ownsRow au 190 1 v1 aM.length (aM.map fun y=>bK y.b):=h3.rowAt (by simp[bg]);have hk5:aM.length<=100:=by rcases an BW with⟨h1,h2⟩|⟨h1,h2⟩;rw[h2];simp;rw[h2];omega
  have e2:=fj b v0 v1 aM.length w2 q1 au _ r1 hk5;have E2:=aq e2;have HA:=aq ha;have HN:=aq oN;have LN:=aq nt;have BZ:=aq hhigh;have Ge:n0<=3:=by rw[<-oN];exact hc
  clear e2 ha oN nt hhigh hF hc
  rcases an BW with⟨h0,jd⟩|⟨h0,jd⟩
  ·
   subst jd;have q0:w2.cell? ⟨b,0,none⟩=some v0:=h3.cellAt (t:=241) (vs:=[v0,v1]) (by simp[aK]) rfl;have p1:w2.cell? ⟨xb,0,none⟩=some (.string it.az):=h3.cellAt (t:=238) (vs:=cellsOf it) (by simp) rfl;have p2:w2.cell? ⟨xb,1,none⟩=some (.string it.name):=h3.cellAt (t:=238) (vs:=cellsOf it) (by simp) rfl;have p3:w2.cell? ⟨xb,2,none⟩=some (.int .i64 it.aN):=h3.cellAt (t:=238) (vs:=cellsOf it) (by simp) rfl;have tt:au<=w2.heap.size:=h3.low (b:=b) (t:=241) (vs:=[v0,v1]) (by simp[aK]);have Hm:Hid (aw au w0 K0 (w2.alloc (.cells #[Value.string it.az,Value.string it.name,Value.int .i64 it.aN] 238)) (.cell w2.heap.size 238 (cellsOf it)::_)):=h3.aY tt 238 (cellsOf it)
   have e3:∀wx,aw au w0 K0 wx (.cell w2.heap.size 238 (cellsOf it)::([.cell xb 238 (cellsOf it),aK b v0 v1]++aO v0 (a++c)::(bg v1 []::.subs (h-1) []::l2)))->Calls prog 219 #[v0,.int .i64 at',.slice (some ⟨w2.heap.size,0,none⟩) 1 1] wx fun e w'=>sx au w0 K0 (n0+1) _ e w':=fun wx hx=>vB _ hx (an HA) (an HN) (by omega)
   have E3:=aq e3;have oQ:∀o,(w2.alloc o).cell? ⟨b,0,none⟩=some v0:=fun o=>Lib.cell?_alloc_some _ q0
   clear e3 r1 q1 h3 hk5;go_wp2_with fail;refine(an E2).mono ?_;rintro e w3 ⟨rfl,rfl⟩;simp only[length_nil,decide_true];go_wp2_with fail
   go_region_with ((go_at_call 219;refine(an E3 _ ?_).mono ?_;exact(an Hm).drew;rintro e w4 ⟨g4,cap4,rfl,WJ,hm4,H5⟩;have k0:w4.cell? ⟨b,0,none⟩=some v0:=H5.cellAt (t:=241) (vs:=[v0,v1]) (by simp[aK]) rfl;have kf:w4.frozen? ⟨b,0,none⟩=false:=H5.frozenAt (t:=241) (vs:=[v0,v1]) (by simp[aK]) 0;have H5':=aq H5;clear H5))
   all_goals
    go_wp2_with fail
    refine bodyPost_ret (results_none rfl _ _ _) rfl ?_;have H6:=((an H5').store [.cell xb 238 (cellsOf it)] 0 (.slice (some ⟨g4,0,none⟩) (n0+1) cap4) _ rfl).aD [];simp only[nil_append,cons_append,set_cons_zero]at H6;obtain⟨k',b1,n1,L1,H7⟩:=H6.shut [] (h:=h) (.inl ⟨h0,rfl⟩) (by simp);refine⟨rfl,k',by rw[b1];exact(an Hb).symm,?_,by rw[n1,an oZ];simp,by rw[n1,an oZ];simp;omega,H7⟩;rw[L1,an HL];simp only[map_nil,cJ];exact(zr a c (an LN) (an BZ)).symm
  ·
   have iV:at'<aM.length:=by have:=an HA;rw[jd,length_append];omega
   obtain⟨b8,kk,cq,rfl,hks1⟩:∃b8 kk cq,aM=b8++kk::cq/\b8.length=at':=⟨aM.take at',aM[at'],aM.drop (at'+1),by rw[<-drop_eq_getElem_cons iV,take_append_drop],by rw[length_take];omega⟩;obtain⟨N,hN⟩:=aa ((b8++kk::cq).length);rw[hN]at r1 hk5 iV;obtain⟨g1,cap1,rfl,kE,Dq⟩:=aZ r1 (by omega);have p0:=fI r1 (j:=at') (k:=kk) (by rw[<-hks1];simp);have p1:w2.cell? ⟨xb,0,none⟩=some (.string it.az):=h3.cellAt (t:=238) (vs:=cellsOf it) (by simp) rfl;have p2:w2.cell? ⟨xb,1,none⟩=some (.string it.name):=h3.cellAt (t:=238) (vs:=cellsOf it) (by simp) rfl
   have p3:w2.cell? ⟨xb,2,none⟩=some (.int .i64 it.aN):=h3.cellAt (t:=238) (vs:=cellsOf it) (by simp) rfl
   have kA:a.length=(b8.map bQ.L).length/\c.length=(cq.map bQ.L).length:=by have:=an HA;simp only[length_append,length_cons]at jd;simp only[length_map];omega
   have Cb:=Uz (l:=kk.L) kA.1 kA.2 (by have:=an HS;simpa using this) (an LN) (an BZ);have Ce:Fit kk:=an lq kk (by simp)
   have e3:∀wx,aw au w0 K0 wx (.cell xb 238 (cellsOf it)::aK b v0 (.slice (some ⟨g1,0,none⟩) N cap1)::aO v0 (a++c)::bg (.slice (some ⟨g1,0,none⟩) N cap1) (b8++kk::cq)::.subs (h-1) (b8++kk::cq)::l2)->
    Calls prog 169 #[.pointer (some ⟨kk.b,0,none⟩),.agg #[.string it.az,.string it.name,.int .i64 it.aN]] wx fun e w'=>sz au w0 K0 (h-1) kk it (aK b v0 (.slice (some ⟨g1,0,none⟩) N cap1)::aO v0 (a++c)::bg (.slice (some ⟨g1,0,none⟩) N cap1) (b8++kk::cq)::.subs (h-1) (b8++cq)::l2) e w':=fun wx hx=>
    an IH h0 au w0 K0 wx kk it _ (((hx.aD []).take [aK b v0 (.slice (some ⟨g1,0,none⟩) N cap1),aO v0 (a++c),bg (.slice (some ⟨g1,0,none⟩) N cap1) (b8++kk::cq)]).front [aK b v0 (.slice (some ⟨g1,0,none⟩) N cap1),aO v0 (a++c),bg (.slice (some ⟨g1,0,none⟩) N cap1) (b8++kk::cq)]) Cb.2 Ce.2
   have E3:=aq e3;have wg:=aq Cb;have VU:=aq kA;have YQ:=aq hks1;have HNN:=aq hN;have aeN:(at':Int)<(N:Int):=by omega
   have hd:decide ((b8++kk::cq).length=0)=false:=by simp
   have Hd:=aq hd;have J4:=aq jd;have X8:=Ce.1;have hfk2:=Ce.2;clear e3 Cb kA hks1 hN r1 h3 hd jd Ce;go_wp2_with fail;refine(an E2).mono ?_;rintro e w3 ⟨rfl,rfl⟩;rw[an Hd];go_wp2_with fail
   go_cut []from 13 (fun wc=>Hid (∃k2:bQ,k2.b=kk.b/\k2.L=da kk.L it/\kk.c<=k2.c/\k2.c<=kk.c+1/\aw au w0 K0 wc (.sub (h-1) k2::aK b v0 (.slice (some ⟨g1,0,none⟩) N cap1)::aO v0 (a++c)::bg (.slice (some ⟨g1,0,none⟩) N cap1) (b8++kk::cq)::.subs (h-1) (b8++cq)::l2)))
   case first=>
    go_region_with ((go_at_call 169;refine(an E3 _ ?_).mono ?_;exact(an H3).drew;rintro e w4 ⟨rfl,hP⟩;have HP:=aq hP;clear hP))
    all_goals (go_wp2_with fail;go_meet;exact HP)
   case rest=>
   obtain⟨k2,cC,CE,OG,Vb,H4⟩:=an hcut;clear hcut E3 E2 q1 p0 p1 p2 p3;have PT:bg (.slice (some ⟨g1,0,none⟩) N cap1) (b8++kk::cq)=bg (.slice (some ⟨g1,0,none⟩) N cap1) (b8++k2::cq):=mX (by simp[cC]);rw[PT]at H4;have q1:wc.cell? ⟨b,1,none⟩=some (.slice (some ⟨g1,0,none⟩) N cap1):=H4.cellAt (t:=241) (vs:=[v0,.slice (some ⟨g1,0,none⟩) N cap1]) (by simp[aK]) rfl
   have r1:wc.ownsRow au 190 1 (.slice (some ⟨g1,0,none⟩) N cap1) N ((b8++k2::cq).map fun y=>bK y.b):=by
    have h5:wc.ownsRow au 190 1 (.slice (some ⟨g1,0,none⟩) N cap1) (b8++k2::cq).length ((b8++k2::cq).map fun y=>bK y.b):=H4.rowAt (by simp[bg]);have h6:(b8++k2::cq).length=N:=by rw[<-an HNN];simp
    rwa [h6]at h5
   have p0:=fI r1 (j:=at') (k:=k2) (by rw[<-an YQ];simp);obtain⟨QP,okids,o0,o1,hoc,_,_,_,HO⟩:=H4.open [];have e4:=ui k2.b o0 QP.length wc (HO.cellAt (b:=k2.b) (t:=241) (vs:=[o0,o1]) (by simp[aK]) (j:=0) rfl) au (flat QP) (HO.rowAt (by simp[aO])) (by omega);rw[<-hoc,cC]at e4;rw[cC]at p0;have E4:=aq e4
   have H5:aw au w0 K0 wc (aK b v0 (.slice (some ⟨g1,0,none⟩) N cap1)::aO v0 (a++c)::bg (.slice (some ⟨g1,0,none⟩) N cap1) (b8++k2::cq)::.subs (h-1) (b8++k2::cq)::l2):=by have h5:=((H4.front [_,_,_]).front [_,_,_]).front [_,_,_];exact h5.OP [aK b v0 (.slice (some ⟨g1,0,none⟩) N cap1),aO v0 (a++c),bg (.slice (some ⟨g1,0,none⟩) N cap1) (b8++k2::cq)] b8 cq
   have Uj:=aq CE;have PD:=aq H5;have HK:=aq H4;clear e4 HO hoc H4 H5 r1 PT CE cC
   by_cases eK:3<k2.c
   ·have vG:decide (3<k2.c)=true:=by simp[eK]
    rw[vG]at E4;have e5:=l6 au w0 K0 wc b (h-1) at' a c b8 cq k2 v0 (.slice (some ⟨g1,0,none⟩) N cap1) l2 (an PD) (an HA) (an YQ) (by have:=an HN;omega) (by have h1:=an HNN;simp only[length_append,length_cons]at h1;have h2:=an J4;simp only[length_append,length_cons]at h2;have h3:=an HN;simp only[length_append]at h3;omega) (by omega);have E5:=aq e5;clear e5 vG;go_wp2_with fail;refine(an E4).mono ?_;rintro e w5 ⟨rfl,rfl⟩;go_wp2_with fail;refine(an E5).mono ?_;rintro e w6 ⟨rfl,m,c1,c2,u0,u1,MG,f1,f2,H6⟩
    have W6:=aq MG;have HH6:=aq H6;clear MG H6;go_wp2_with fail
    go_end0
    obtain⟨k',b1,n1,L1,H7⟩:=(an HH6).shut [] (h:=h) (.inr ⟨h0,by have h1:=an J4;simp only[length_append,length_cons]at h1 ⊢;omega⟩) (fun x hx=>by
     simp only[mem_append,mem_cons]at hx
     rcases hx with hx|rfl|rfl|hx
     ·exact an lq x (by simp[hx])
     ·exact f1
     ·exact f2
     ·exact an lq x (by simp[hx]))
    have kA:=an VU;refine⟨rfl,k',by rw[b1];exact(an Hb).symm,?_,by rw[n1,an oZ];simp,by rw[n1,an oZ];simp;omega,H7⟩;rw[L1,an HL];simp only[map_append,map_cons];rw[AR kA.1 kA.2,(an wg).1,<-an Uj,an W6]
   ·have vG:decide (3<k2.c)=false:=by simp[eK]
    rw[vG]at E4;clear vG;go_wp2_with fail;refine(an E4).mono ?_;rintro e w5 ⟨rfl,rfl⟩;go_wp2_with fail
    go_end0
    obtain⟨k',b1,n1,L1,H7⟩:=(an PD).shut [] (h:=h) (.inr ⟨h0,by have h1:=an J4;simp only[length_append,length_cons]at h1 ⊢;omega⟩) (fun x hx=>by
     simp only[mem_append,mem_cons]at hx
     rcases hx with hx|rfl|hx
     ·exact an lq x (by simp[hx])
     ·exact⟨by omega,by omega⟩
     ·exact an lq x (by simp[hx]))
    refine⟨rfl,k',by rw[b1];exact(an Hb).symm,?_,by rw[n1,an oZ];exact Nat.le_refl _,by rw[n1,an oZ];exact Nat.le_succ _,H7⟩;rw[L1,an HL];simp only[map_append,map_cons];rw[(an wg).1,an Uj]
theorem GZ:∀h,M3 h
 | 0=>fun au w0 K0 w k it l2 H hs hc=>GY 0 (fun h=>absurd h (Nat.lt_irrefl 0)) au w0 K0 w k it l2 H hs hc
 |h+1=>fun au w0 K0 w k it l2 H hs hc=>GY (h+1) (fun _=>GZ h) au w0 K0 w k it l2 H hs hc
theorem aw.lit {au:Nat} {w0 w:World} {K0:Nat->Nat} {rs:List aI} (h:aw au w0 K0 w rs) (hb:au<=w.heap.size) (e:TypeId) (k n:Nat) (xs:List Value) (hl:xs.length=n*k) (hn:n<=100):aw au w0 K0 (w.alloc (.cells xs.toArray e)) (.row (.slice (some ⟨w.heap.size,0,none⟩) n n) e k n xs::rs):=
 h.new ((Kept.refl _ w).alloc _) (by have:=World.ownsRow_lit (base:=au) (e:=e) (size:=k) w xs.toArray n hb (by unfold maxLen;omega) (by simpa using hl);show(w.alloc (.cells xs.toArray e)).ownsRow au e k _ n xs;simpa using this) (fun x hx=>by have:=dV.1 hx;rw[show(Value.slice (some ⟨w.heap.size,0,none⟩) n n).ownBlock=some w.heap.size from rfl]at this;have:=Option.some.inj this;omega) (qI _)
def fY (au:Nat) (w0:World) (K0:Nat->Nat) (w:World) (tb:Nat) (L:List aG) (l2:List aI):Prop:=
 bf L/\∃h k,k.L=L/\k.c<=3/\(h=0∨1<=k.c)/\aw au w0 K0 w (.cell tb 192 [bK k.b]::.sub h k::l2)
theorem wU (au:Nat) (w0:World) (K0:Nat->Nat) (w:World) (l2:List aI) (H:aw au w0 K0 w l2) (hb:au<=w.heap.size):
 Calls prog 124 #[] w fun e w'=>∃tb,e=.returned (.pointer (some ⟨tb,0,none⟩))/\fY au w0 K0 w' tb [] l2:=by
 have H1:=(H.aY hb 241 [.slice none 0 0,.slice none 0 0]);have H2:=H1.aY (w:=w.alloc _) (by simp;omega) 192 [bK w.heap.size];have HH:=aq H2;clear H H1 H2;go_enter func124,ntmps124;go_wp2_with fail;go_ret;refine⟨w.heap.size+1,rfl,List.Pairwise.nil,?_⟩;have H3:=an HH
 have H4:aw au w0 K0 _ ([.cell (w.heap.size+1) 192 [bK w.heap.size]]++aK w.heap.size (.slice none 0 0) (.slice none 0 0)::aO (.slice none 0 0) []::bg (.slice none 0 0) []::.subs (0-1) []::l2):=H3.conv (fun x=>by
  simp only[ay,ax,fx,aK,aO,bg,bM,dD,dI,pg,World.size_alloc];have:eR (.slice none 0 0) x=0:=rfl;omega) (fun r hr=>by
  simp only[mem_append,mem_cons,mem_nil_iff,or_false,mem_singleton]at hr
  rcases hr with rfl|rfl|rfl|rfl|rfl|hr
  ·exact H3.sat _ (by simp)
  ·exact H3.sat _ (by simp[aK])
  ·exact World.ownsRow_nil _ _ _ _
  ·exact World.ownsRow_nil _ _ _ _
  ·intro x hx;simp at hx
  ·exact H3.sat _ (by simp[hr]))
 obtain⟨k,b1,n1,L1,H5⟩:=H4.shut [.cell (w.heap.size+1) 192 [bK w.heap.size]] (h:=0) (.inl ⟨rfl,rfl⟩) (by simp);refine⟨0,k,by rw[L1];rfl,by rw[n1];simp,.inl rfl,?_⟩;rw[b1];exact H5
def BR (au:Nat) (w0:World) (K0:Nat->Nat) (tb:Nat) (L:List aG) (it:aG) (l2:List aI) (e:Ending) (w':World):Prop:=
 e=.returned (.tuple #[])/\fY au w0 K0 w' tb (da L it) l2
theorem tD (au:Nat) (w0:World) (K0:Nat->Nat) (w:World) (tb:Nat) (L:List aG) (it:aG) (l2:List aI) (HT:fY au w0 K0 w tb L l2) (hk:it.az.toList.isEmpty=false):
 Calls prog 116 #[.pointer (some ⟨tb,0,none⟩),.string it.az,.agg #[.string it.name,.int .i64 it.aN]] w fun e w'=>BR au w0 K0 tb L it l2 e w':=by
 obtain⟨hs,h,k,hL,hc,kE,H⟩:=HT;have mg:au<=w.heap.size:=H.low (b:=tb) (t:=192) (vs:=[bK k.b]) (by simp);have H1:=H.aY mg 100 [.string it.name,.int .i64 it.aN];obtain⟨xb,hxb⟩:=aa w.heap.size
 have e1:∀wx,aw au w0 K0 wx (.cell xb 100 [.string it.name,.int .i64 it.aN]::.cell tb 192 [bK k.b]::.sub h k::l2)->Calls prog 169 #[.pointer (some ⟨k.b,0,none⟩),.agg #[.string it.az,.string it.name,.int .i64 it.aN]] wx fun e w'=>sz au w0 K0 h k it (.cell tb 192 [bK k.b]::l2) e w':=fun wx hx=>
  GZ h au w0 K0 wx k it _ ((hx.aD []).front [.cell tb 192 [bK k.b]]) (by rw[hL];exact hs) hc
 have E1:=aq e1;have HL:=aq hL;have HS:=aq hs;have Ts:=aq kE;have yN:=aq H1;clear e1 hL hs kE H H1;go_enter func116,ntmps116;go_wp2_with fail;rw[hxb]at yN;generalize iD:w.alloc (Obj.cells #[Value.string it.name,Value.int IntKind.i64 it.aN] 100)=w1 at yN ⊢
 have H2:aw au w0 K0 w1 (.cell xb 100 [.string it.name,.int .i64 it.aN]::.cell tb 192 [bK k.b]::.sub h k::l2):=by exact an yN
 have q0:w1.cell? ⟨tb,0,none⟩=some (.pointer (some ⟨k.b,0,none⟩)):=H2.cellAt (t:=192) (vs:=[bK k.b]) (by simp) rfl;have q1:w1.cell? ⟨xb,0,none⟩=some (.string it.name):=H2.cellAt (t:=100) (vs:=[.string it.name,.int .i64 it.aN]) (by simp) rfl;have q2:w1.cell? ⟨xb,1,none⟩=some (.int .i64 it.aN):=H2.cellAt (t:=100) (vs:=[.string it.name,.int .i64 it.aN]) (by simp) rfl;have ri:=aq H2;clear H2 yN iD hxb
 go_cut []from 6 (fun wc=>Hid (∃k2:bQ,k2.b=k.b/\k2.L=da k.L it/\k.c<=k2.c/\k2.c<=k.c+1/\aw au w0 K0 wc (.sub h k2::.cell tb 192 [bK k.b]::l2)))
 case first=>
  go_region_with ((go_at_call 169;refine(an E1 _ ?_).mono ?_;exact(an ri).drew;rintro e w4 ⟨rfl,hP⟩;have HP:=aq hP;clear hP))
  all_goals (go_wp2_with fail;go_meet;exact HP)
 case rest=>
 obtain⟨k2,cC,CE,OG,Vb,H4⟩:=an hcut;clear hcut E1 q0 q1 q2;rw[<-cC]at H4;obtain⟨QP,okids,o0,o1,hoc,_,_,_,HO⟩:=H4.open [];have e4:=ui k2.b o0 QP.length wc (HO.cellAt (b:=k2.b) (t:=241) (vs:=[o0,o1]) (by simp[aK]) (j:=0) rfl) au (flat QP) (HO.rowAt (by simp[aO])) (by omega);rw[<-hoc]at e4;have E4:=aq e4;have q0:wc.cell? ⟨tb,0,none⟩=some (.pointer (some ⟨k2.b,0,none⟩)):=H4.cellAt (t:=192) (vs:=[bK k2.b]) (by simp) rfl;have q1:wc.frozen? ⟨tb,0,none⟩=false:=H4.frozenAt (t:=192) (vs:=[bK k2.b]) (by simp) 0
 have eO:tb<wc.heap.size:=(Array.getElem?_eq_some_iff.1 (H4.sat (.cell tb 192 [bK k2.b]) (by simp)).2).1;have tt:au<=wc.heap.size:=H4.low (b:=tb) (t:=192) (vs:=[bK k2.b]) (by simp);have Uj:=aq CE;have HK:=aq H4;have nK:=aq cC;clear e4 HO hoc H4 CE cC
 by_cases eK:3<k2.c
 ·have vG:decide (3<k2.c)=true:=by simp[eK]
  rw[vG]at E4;have h5:=(an HK).store [.sub h k2] 0 (bK (wc.heap.size+1)) _ rfl;have h6:=h5.lit (by simpa using tt) 190 1 1 [bK k2.b] rfl (by omega);have h7:=h6.aY (by simp;omega) 241 [.slice none 0 0,.slice (some ⟨wc.heap.size,0,none⟩) 1 1];simp only[World.size_alloc,World.size_setCell,cons_append,nil_append,set_cons_zero]at h7;have H5:=aq h7;clear vG h5 h6 h7;go_wp2_with fail;refine(an E4).mono ?_;rintro e w5 ⟨rfl,rfl⟩;go_wp2_with fail
  have e5:=l6 au w0 K0 _ (w5.heap.size+1) h 0 [] [] [] [] k2 (.slice none 0 0) (.slice (some ⟨w5.heap.size,0,none⟩) 1 1) (.cell tb 192 [bK (w5.heap.size+1)]::l2) ((an H5).conv (fun x=>by
   simp only[nil_append,ax,aK,aO,bg,bM,dD,eV,dI,iQ,pg];have:eR (.slice none 0 0) x=0:=rfl;omega) (fun r hr=>by
   have hs:=(an H5).sat;simp only[nil_append,mem_cons]at hr
   rcases hr with rfl|rfl|rfl|rfl|rfl|hr
   ·exact hs _ (by simp[aK])
   ·exact World.ownsRow_nil _ _ _ _
   ·exact hs _ (by simp[bg])
   ·intro x hx;simp at hx;subst hx;exact hs (.sub h x) (by simp)
   ·exact hs _ (by simp)
   ·exact hs _ (by simp[hr]))) rfl rfl (by simp) (by simp) (by omega)
  refine e5.mono ?_;rintro e w6 ⟨rfl,m,c1,c2,u0,u1,MG,f1,f2,H6⟩;have W6:=aq MG;have HH6:=aq H6;clear MG H6 e5;go_wp2_with fail
  go_end0
  obtain⟨k',b1,n1,L1,H7⟩:=(an HH6).shut [] (h:=h+1) (.inr ⟨by omega,rfl⟩) (fun x hx=>by
   simp only[nil_append,mem_cons,mem_nil_iff,or_false]at hx
   rcases hx with rfl|rfl
   ·exact f1
   ·exact f2)
  refine⟨rfl,gk (an HS),h+1,k',?_,by rw[n1];simp,.inr (by rw[n1];simp),?_⟩
  ·rw[L1,<-an HL,<-an Uj,an W6];rfl
  ·rw[b1];exact H7.front [_]
 ·have vG:decide (3<k2.c)=false:=by simp[eK]
  rw[vG]at E4;clear vG;go_wp2_with fail;refine(an E4).mono ?_;rintro e w5 ⟨rfl,rfl⟩;go_wp2_with fail
  go_end0
  refine⟨rfl,gk (an HS),h,k2,by rw[an Uj,an HL],by omega,?_,(an HK).front [_]⟩
  rcases an Ts with h1|h1
  ·exact .inl h1
  ·exact .inr (by omega)
def Full (L:List aG):Prop:=∀x∈L,x.az.toList.isEmpty=false
theorem Full.after {L:List aG} (h:Full L):bC L ⟨#[]⟩=L:=by
 unfold bC;rw[filter_eq_self];intro x hx;have h1:=h x hx;rw[Go.Lib.toList_data]at h1;simp only[decide_eq_true_eq];unfold dR jP
 cases hq:x.az.data.toList with
 |nil=>rw[hq]at h1;simp at h1
 |cons a l=>simp[Go.Lib.compareBytes]
theorem Gx {more:List aG->Bool} (h:∀a,more a=true):∀(xs acc:List aG),tell more acc xs=(acc++xs,true)
 |[],acc=>by rw[zX,append_nil]
 |x::xs,acc=>by rw[kh,h,if_pos rfl,Gx h xs];simp
def SM (mb:Nat) (acc:List aG) (rs:List aI):Prop:=rs=[.cell mb 3 [.int .i64 acc.length]]
theorem adu (au:Nat) (w0:World) (K0:Nat->Nat) (mb:Nat):R5 au w0 K0 133 #[.pointer (some ⟨mb,0,none⟩)] (SM mb) (fun _=>true):=by
 intro w acc rs it l2 hS hl H
 show Calls prog 133 #[.agg #[.string it.name,.int .i64 it.aN],.pointer (some ⟨mb,0,none⟩)] w _;unfold SM at hS;subst hS;have q0:w.cell? ⟨mb,0,none⟩=some (.int .i64 acc.length):=H.cellAt (t:=3) (vs:=[.int .i64 acc.length]) (by simp) rfl;have q1:w.frozen? ⟨mb,0,none⟩=false:=H.frozenAt (t:=3) (vs:=[.int .i64 acc.length]) (by simp) 0;have oQ:∀o,(w.alloc o).cell? ⟨mb,0,none⟩=some (.int .i64 acc.length):=fun o=>Lib.cell?_alloc_some _ q0
 have eO:mb<w.heap.size:=(Array.getElem?_eq_some_iff.1 (H.sat (.cell mb 3 [.int .i64 acc.length]) (by simp)).2).1;have h2:=H.store [] 0 (.int .i64 ((acc.length:Int)+1)) _ rfl;have ri:=aq h2;obtain⟨n,hn⟩:=aa acc.length;rw[hn]at q0 hl oQ;have Hn:=aq hn;clear H h2 hn;go_enter func133,ntmps133;go_wp2_with fail;go_ret;refine⟨[.cell mb 3 [.int .i64 ((acc++[it]).length:Nat)]],rfl,rfl,?_⟩;have h3:=an ri;rw[an Hn]at h3;have e:(((acc++[it]).length:Nat):Int)=(n:Int)+1:=by rw[length_append,an Hn];simp
 rw[e];exact h3.alloc _
theorem AP (au:Nat) (w0:World) (K0:Nat->Nat) (w:World) (tb:Nat) (L:List aG) (l2:List aI) (HT:fY au w0 K0 w tb L l2) (hf:Full L) (hl:L.length<=1000):
 Calls prog 90 #[.pointer (some ⟨tb,0,none⟩)] w fun e w'=>e=.returned (.int .i64 L.length)/\fY au w0 K0 w' tb L l2:=by
 obtain⟨hs,h,k,hL,hc,kE,H⟩:=HT;have mg:au<=w.heap.size:=H.low (b:=tb) (t:=192) (vs:=[bK k.b]) (by simp);have H1:=H.aY mg 3 [.int .i64 0]
 have e1:=ZE au w0 K0 133 #[.pointer (some ⟨w.heap.size,0,none⟩)] (SM w.heap.size) (fun _=>true) ⟨#[]⟩ (fun _ _=>by kernel_rfl) (adu au w0 K0 w.heap.size) h _ k [] _ (.cell tb 192 [bK k.b]::l2) rfl (by rw[hL];simp;omega) (H1.conv (rs':=[.cell w.heap.size 3 [.int .i64 (([]:List aG).length:Nat)]]++.sub h k::.cell tb 192 [bK k.b]::l2) (fun x=>by simp only[ay,ax,fx,bM];omega) (fun r hr=>H1.sat r (by
  simp only[cons_append,nil_append,mem_cons]at hr ⊢
  rcases hr with h|h|h|h
  ·exact .inl h
  ·exact .inr (.inr (.inl h))
  ·exact .inr (.inl h)
  ·exact .inr (.inr (.inr h))))) (by rw[hL];exact hs) hc
 have q0:w.cell? ⟨tb,0,none⟩=some (.pointer (some ⟨k.b,0,none⟩)):=H.cellAt (t:=192) (vs:=[bK k.b]) (by simp) rfl;have oQ:∀o,(w.alloc o).cell? ⟨tb,0,none⟩=some (.pointer (some ⟨k.b,0,none⟩)):=fun o=>Lib.cell?_alloc_some _ q0
 have E1:=aq e1;have HL:=aq hL;have HS:=aq hs;have Ts:=aq kE;have Hf:=aq hf;clear e1 H H1 hL hs kE hf;go_enter func90,ntmps90;go_wp2_with fail;refine(an E1).mono ?_;rintro e w2 ⟨rs',rfl,hS',H2⟩
 have ht:tell (fun _=>true) [] (bC k.L ⟨#[]⟩)=(L,true):=by rw[an HL,(an Hf).after,Gx (fun _=>rfl)];rfl
 rw[ht]at hS' ⊢;unfold SM at hS';subst hS';have q1:w2.cell? ⟨w.heap.size,0,none⟩=some (.int .i64 L.length):=H2.cellAt (t:=3) (vs:=[.int .i64 L.length]) (by simp) rfl;have ri:=aq H2;clear H2 ht E1;go_wp2_with fail;go_ret;exact⟨rfl,an HS,h,k,an HL,hc,an Ts,((an ri).aD []).front [_]⟩
theorem sY {L:List aG} {x:aG} (hs:bf L) (hx:x∈L):cF L x.az=some x:=by
 unfold cF
 induction L with
 |nil=>simp at hx
 |cons y L ih=>
  have h:=List.pairwise_cons.1 hs;rw[find?_cons]
  rcases mem_cons.1 hx with rfl|h1
  ·simp
  ·have h2:¬(y.az=x.az):=fL (h.1 x h1);simp only[h2,decide_false];exact ih h.2 h1
theorem pI {L:List aG} {az:ByteArray} (h:∀x∈L,x.az≠az):cF L az=none:=by
 unfold cF;rw[find?_eq_none];intro x hx;simp[h x hx]
theorem I4 {A M C:List aG} {az:ByteArray} (ha:∀x∈A,dR x.az az) (hc:∀x∈C,dR az x.az):cF (A++M++C) az=cF M az:=by
 have e1:A.find? (fun x=>decide (x.az=az))=none:=by rw[find?_eq_none];intro x hx;simp[fL (ha x hx)]
 have e2:C.find? (fun x=>decide (x.az=az))=none:=by rw[find?_eq_none];intro x hx;simp[(fL (hc x hx)).symm]
 unfold cF;rw[find?_append,find?_append,e1,e2];simp
def OQ:Option aG->Value
 |some x=>.tuple #[.agg #[.string x.name,.int .i64 x.aN],.bool true]
 |none=>.tuple #[.agg #[.string ⟨#[]⟩,.int .i64 0],.bool false]
theorem rE {fn:Func} {p u:Tmp} (h:fn.results=#[.cell p 100,.tmp u]) (tmps:Array Value) (w:World) (g:Nat) (t:TypeId) (a b:Value) {v:Value}
 (hp:tmps.getD p undef=.pointer (some ⟨g,0,none⟩)) (AW:tmps.getD u undef=v) (hg:w.heap[g]? = some (.cells #[a,b] t (0,0))):
 (results fn tmps).run prog w=.ok (.tuple #[.agg #[a,b],v]) w:=by
 have hr:=run_loadVar_row (P:=prog) w g t 100 #[a,b] (0,0) _ hg underlying100 rfl (by kernel_rfl);rw[results_cell_tmp h,hp,AW];simp[asAddr,hr]
theorem Sub.cells {au:Nat} {w:World} {h:Nat} {k:bQ} (hs:Sub au w h k):∃aQ aM v0 v1,k.c=aQ.length/\k.L=inter aQ (aM.map bQ.L)/\Shape h aQ aM/\(∀x∈aM,Fit x/\Sub au w (h-1) x)/\w.cell? ⟨k.b,0,none⟩=some v0/\w.cell? ⟨k.b,1,none⟩=some v1/\w.ownsRow au 238 3 v0 aQ.length (flat aQ)/\w.ownsRow au 190 1 v1 aM.length (aM.map fun y=>bK y.b):=by
 obtain⟨aQ,aM,v0,v1,hn,hk,hf⟩:=hs.open;refine⟨aQ,aM,v0,v1,hn.c,hn.L,?_,?_,?_,?_,hn.items,hn.below⟩
 ·cases h with
  |zero=>exact .inl ⟨rfl,hk⟩
  |succ h=>exact .inr ⟨by omega,hk.1⟩
 ·intro x hx
  cases h with
  |zero=>obtain rfl:aM=[]:=hk;simp at hx
  |succ h=>exact⟨hf x hx,hk.2 x hx⟩
 ·rw[cell_of_row w k.b 0 _ 241 (0,0) hn.cell];rfl
 ·rw[cell_of_row w k.b 1 _ 241 (0,0) hn.cell];rfl
def TH (au:Nat) (w0:World) (K0:Nat->Nat) (tb:Nat) (L:List aG) (az:ByteArray) (l2:List aI) (e:Ending) (w':World):Prop:=
 e=.returned (OQ (cF L az))/\fY au w0 K0 w' tb L l2
theorem DA (au:Nat) (w0:World) (K0:Nat->Nat) (w:World) (tb:Nat) (L:List aG) (l2:List aI) (az:ByteArray) (HT:fY au w0 K0 w tb L l2):
 Calls prog 118 #[.pointer (some ⟨tb,0,none⟩),.string az] w fun e w'=>TH au w0 K0 tb L az l2 e w':=by
 obtain⟨hs,h,k,hL,hc,kE,H⟩:=HT;have mg:au<=w.heap.size:=H.low (b:=tb) (t:=192) (vs:=[bK k.b]) (by simp);have H1:=H.aY mg 100 [.string ⟨#[]⟩,.int .i64 0];have q0:w.cell? ⟨tb,0,none⟩=some (.pointer (some ⟨k.b,0,none⟩)):=H.cellAt (t:=192) (vs:=[bK k.b]) (by simp) rfl;have oQ:∀o,(w.alloc o).cell? ⟨tb,0,none⟩=some (.pointer (some ⟨k.b,0,none⟩)):=fun o=>Lib.cell?_alloc_some _ q0
 have j9:∀wx,aw au w0 K0 wx (.cell w.heap.size 100 [.string ⟨#[]⟩,.int .i64 0]::.cell tb 192 [bK k.b]::.sub h k::l2)->fY au w0 K0 wx tb L l2:=fun wx hx=>⟨hs,h,k,hL,hc,kE,hx.aD []⟩
 obtain⟨gb,U3⟩:=aa w.heap.size;have xJ:Hid (∀wx a b,aw au w0 K0 wx (.cell gb 100 [a,b]::.cell tb 192 [bK k.b]::.sub h k::l2)->fY au w0 K0 wx tb L l2):=fun wx a b hx=>⟨hs,h,k,hL,hc,kE,hx.aD []⟩
 have nr:Sub au (w.alloc (.cells #[.string ⟨#[]⟩,.int .i64 0] 100)) h k:=H1.ZH (by simp);have mW:Hid (Sub au (w.alloc (.cells #[.string ⟨#[]⟩,.int .i64 0] 100)) h k/\bf k.L/\k.c<=3/\cF L az=cF k.L az):=⟨nr,by rw[hL];exact hs,hc,by rw[hL]⟩;rw[U3]at H1;have yN:=aq H1;clear H H1 hs hL kE j9 nr hc;go_enter func118,ntmps118;go_wp2_with fail;clear U3
 go_loopg [6] (h+2) (fun g v6 wr=>∃(h':Nat) (k':bQ),h'<g/\v6=.pointer (some ⟨k'.b,0,none⟩)/\Hid (Sub au wr h' k'/\bf k'.L/\k'.c<=3/\cF L az=cF k'.L az)/\Hid (aw au w0 K0 wr (.cell gb 100 [.string ⟨#[]⟩,.int .i64 0]::.cell tb 192 [bK k.b]::.sub h k::l2)))
 case atStart=>exact⟨h,k,by omega,rfl,mW,yN⟩
 case round=>
  obtain⟨h',k',KS,rfl,HS,HR⟩:=hrel;obtain⟨nr,hsrt,Vb,oO⟩:=an HS;obtain⟨aQ,aM,v0,v1,kD,hkL,gX,hkid,c0,c1,r0,r1⟩:=nr.cells;rw[hkL]at hsrt oO;have e1:=jw k'.b v0 aQ az wr c0 au r0 (gX.sorted hsrt) (by omega);have E1:=aq e1;have R0:=aq r0;have R1:=aq r1;have C0:=aq c0;have C1:=aq c1;have abR:=aq hsrt;have LP:=aq oO;have BW:=aq gX;have afs:=aq hkid;have oZ:=aq kD;clear e1 nr r0 r1 c0 c1 hsrt oO gX hkid hkL HS;go_wp2_with fail;refine(an E1).mono ?_;rintro e w2 ⟨at',qv,rfl,hF,hB⟩
  have kp:Kept (fun _=>False) wr w2:=Kept.iH hB;have r0:=kp.row (an R0) (fun _ _ h=>h);have r1:=kp.row (an R1) (fun _ _ h=>h);have c0:=(hB.cell (p:=⟨k'.b,0,none⟩) (World.block_lt_of_cell? _ _ (an C0))).trans (an C0);have c1:=(hB.cell (p:=⟨k'.b,1,none⟩) (World.block_lt_of_cell? _ _ (an C1))).trans (an C1);have J6:=aq ((an HR).below hB);have Hkp:=aq kp;obtain⟨n,hn⟩:=aa aQ.length;rw[hn]at r0;clear HR E1 hB kp R0 R1 C0 C1
  rcases hF.split with⟨rfl,a,x,c,eP,ha,hx,nt⟩|⟨rfl,a,c,eP,ha,nt,hhigh⟩
  ·have Zo:at'<n:=by rw[<-hn,eP,<-ha];simp
   obtain⟨g0,cap0,rfl,_,_⟩:=aZ r0 (by omega);obtain⟨s1,s2,s3⟩:=iT r0 (j:=at') (x:=x) (by rw[eP,<-ha];simp);have haz:(at':Int)<(n:Int):=by omega
   have hh:=an J6;have k0:w2.cell? ⟨gb,0,none⟩=some (.string ⟨#[]⟩):=hh.cellAt (t:=100) (vs:=[.string ⟨#[]⟩,.int .i64 0]) (by simp) rfl;have k1:w2.cell? ⟨gb,1,none⟩=some (.int .i64 0):=hh.cellAt (t:=100) (vs:=[.string ⟨#[]⟩,.int .i64 0]) (by simp) rfl;have f0:w2.frozen? ⟨gb,0,none⟩=false:=hh.frozenAt (t:=100) (vs:=[.string ⟨#[]⟩,.int .i64 0]) (by simp) 0;have f1:w2.frozen? ⟨gb,1,none⟩=false:=hh.frozenAt (t:=100) (vs:=[.string ⟨#[]⟩,.int .i64 0]) (by simp) 1;have h5:=aq ((hh.store [] 0 (.string x.name) _ rfl).store [] 1 (.int .i64 x.aN) _ rfl)
   have nQ:cF L az=some x:=by rw[an LP,<-hx];refine sY (an abR) ?_;rw[eP];have Wm:=xa aQ (aM.map bQ.L) (by rcases an BW with⟨_,h0⟩|⟨_,h0⟩;exact .inl (by rw[h0];rfl);exact .inr (by simpa using h0));rw[eP]at Wm;exact Wm.subset (by simp)
   have Tn:=aq nQ;clear hF eP ha hx nt hh r0 r1 nQ hn;go_wp2_with fail;have h6:=an h5;simp only[nil_append,set_cons_zero,set_cons_succ]at h6;refine bodyPost_ret (rE (p:=4) (u:=5) rfl _ _ gb 100 (.string x.name) (.int .i64 x.aN) (v:=.bool true) rfl rfl (h6.sat (.cell gb 100 [.string x.name,.int .i64 x.aN]) (by simp)).2) rfl ?_;exact⟨by rw[an Tn];rfl,an xJ _ _ _ h6⟩
  ·have hle:=fj k'.b v0 v1 aM.length w2 c1 au _ r1 (by rcases an BW with⟨_,h0⟩|⟨_,h0⟩;rw[h0];simp;have:=an oZ;omega);have E2:=aq hle;have JI:=aq eP;have Ha:=aq ha;have LN:=aq nt;have BZ:=aq hhigh;clear hle hF eP ha nt hhigh
   rcases an BW with⟨h0,jd⟩|⟨h0,jd⟩
   ·have hd:decide (aM.length=0)=true:=by rw[jd];rfl
    rw[hd]at E2;have hh:=an J6;have k0:w2.cell? ⟨gb,0,none⟩=some (.string ⟨#[]⟩):=hh.cellAt (t:=100) (vs:=[.string ⟨#[]⟩,.int .i64 0]) (by simp) rfl;have k1:w2.cell? ⟨gb,1,none⟩=some (.int .i64 0):=hh.cellAt (t:=100) (vs:=[.string ⟨#[]⟩,.int .i64 0]) (by simp) rfl;have f0:w2.frozen? ⟨gb,0,none⟩=false:=hh.frozenAt (t:=100) (vs:=[.string ⟨#[]⟩,.int .i64 0]) (by simp) 0;have f1:w2.frozen? ⟨gb,1,none⟩=false:=hh.frozenAt (t:=100) (vs:=[.string ⟨#[]⟩,.int .i64 0]) (by simp) 1;have h5:=aq ((hh.store [] 0 (.string ⟨#[]⟩) _ rfl).store [] 1 (.int .i64 0) _ rfl)
    have nQ:cF L az=none:=by
     rw[an LP,jd,map_nil,cJ,an JI];refine pI (fun x hx=>?_)
     rcases mem_append.1 hx with h1|h1
     ·exact fL (an LN x h1)
     ·exact(fL (an BZ x h1)).symm
    have Tn:=aq nQ;clear hd jd hh nQ r0 r1 c0 hn;go_wp2_with fail;refine(an E2).mono ?_;rintro e w3 ⟨rfl,rfl⟩;go_wp2_with fail;have h6:=an h5;simp only[nil_append,set_cons_zero,set_cons_succ]at h6;refine bodyPost_ret (rE (p:=4) (u:=5) rfl _ _ gb 100 (.string ⟨#[]⟩) (.int .i64 0) (v:=.bool false) rfl rfl (h6.sat (.cell gb 100 [.string ⟨#[]⟩,.int .i64 0]) (by simp)).2) rfl ?_;exact⟨by rw[an Tn];rfl,an xJ _ _ _ h6⟩
   ·have hd:decide (aM.length=0)=false:=by simp;intro h1;rw[h1]at jd;simp at jd
    rw[hd]at E2;have iV:at'<aM.length:=by have:=an Ha;rw[jd,an JI,length_append];omega
    obtain⟨b8,kk,cq,bV,hks1⟩:∃b8 kk cq,aM=b8++kk::cq/\b8.length=at':=⟨aM.take at',aM[at'],aM.drop (at'+1),by rw[<-drop_eq_getElem_cons iV,take_append_drop],by rw[length_take];omega⟩;obtain⟨N,hN⟩:=aa aM.length;rw[hN]at r1 iV;obtain⟨g1,cap1,rfl,_,_⟩:=aZ r1 (by omega);have p1:=fI r1 (j:=at') (k:=kk) (by rw[bV,<-hks1];simp);have haz:(at':Int)<(N:Int):=by omega
    have nS:=an afs kk (by rw[bV];simp)
    have kA:a.length=(b8.map bQ.L).length/\c.length=(cq.map bQ.L).length:=by have h1:=an Ha;rw[bV,an JI]at jd;simp only[length_append,length_cons]at jd;simp only[length_map];omega
    have ns:Sub au w2 (h'-1) kk/\bf kk.L/\kk.c<=3/\cF L az=cF kk.L az:=by have rV:=an abR;have oP:=an LP;rw[an JI,bV,map_append,map_cons]at rV oP;rw[dj a _ c kk.L _ kA.1 kA.2]at rV oP;refine⟨nS.2.kept (an Hkp) (fun _ _ h=>h),rV.V8,nS.1.2,?_⟩;rw[oP];exact I4 (zt kA.1 (t:=kk.L++post c (cq.map bQ.L)) (by rw[<-append_assoc];exact rV) (an LN)) (wP kA.2 rV (an BZ))
    have tT:=aq ns;clear hd jd bV hks1 hN nS kA ns r0 r1 c0 hn;go_wp2_with fail;refine(an E2).mono ?_;rintro e w3 ⟨rfl,rfl⟩;go_wp2_with fail
    go_roundg h'
    case measure=>omega
    case rel=>exact⟨h'-1,kk,by omega,rfl,tT,J6⟩
theorem nE {L:List aG} {az:ByteArray} (h:∀x∈L,x.az≠az):dv L az=L:=by
 unfold dv;rw[filter_eq_self];intro x hx;simp[h x hx]
theorem qH (A B:List aG) (az:ByteArray):dv (A++B) az=dv A az++dv B az:=by simp[dv]
theorem Jf {A C:List aG} {x:aG} (h:bf (A++x::C)):dv (A++x::C) x.az=A++C:=by
 have h1:=pairwise_append.1 h;have h2:=List.pairwise_cons.1 h1.2.1;rw[qH,nE (fun y hy=>fL (h1.2.2 y hy x (by simp)))]
 congr 1
 have e:dv (x::C) x.az=dv C x.az:=by simp[dv]
 rw[e,nE (fun y hy=>(fL (h2.1 y hy)).symm)]
theorem s9 {A M C:List aG} {az:ByteArray} (ha:∀x∈A,dR x.az az) (hc:∀x∈C,dR az x.az):dv (A++M++C) az=A++dv M az++C:=by
 rw[qH,qH,nE (fun x hx=>fL (ha x hx)),nE (fun x hx=>(fL (hc x hx)).symm)]
theorem mM {L:List aG} {az:ByteArray} (h:bf L):bf (dv L az):=List.Pairwise.sublist (filter_sublist) h
def zL (au:Nat) (w0:World) (K0:Nat->Nat) (h:Nat) (k:bQ) (az:ByteArray) (l2:List aI) (e:Ending) (w':World):Prop:=
 e=.returned (.bool (cF k.L az).isSome)/\∃k':bQ,k'.b=k.b/\k'.L=dv k.L az/\k'.c<=k.c/\k.c<=k'.c+1/\aw au w0 K0 w' (.sub h k'::l2)
def JR (h:Nat):Prop:=∀(au:Nat) (w0:World) (K0:Nat->Nat) (w:World) (k:bQ) (az:ByteArray) (l2:List aI),aw au w0 K0 w (.sub h k::l2)->bf k.L->(h=0∨1<=k.c)->k.c<=3->
 Calls prog 222 #[.pointer (some ⟨k.b,0,none⟩),.string az] w fun e w'=>zL au w0 K0 h k az l2 e w'
theorem O7 (au:Nat) (w0:World) (K0:Nat->Nat) (w:World) (k:bQ) (az:ByteArray) (l2:List aI) (H:aw au w0 K0 w (.sub 0 k::l2)) (hs:bf k.L) (Vb:k.c<=3):
 Calls prog 222 #[.pointer (some ⟨k.b,0,none⟩),.string az] w fun e w'=>zL au w0 K0 0 k az l2 e w':=by
 obtain⟨aQ,aM,v0,v1,kD,hL,gX,fQ,H1⟩:=H.open [];simp only[nil_append]at H1;have jd:aM=[]:=by rcases gX with⟨_,h⟩|⟨h,_⟩;exact h;omega
 subst jd;simp only[map_nil,cJ]at hL;rw[hL]at hs;obtain⟨b,hb⟩:=aa k.b;rw[hb]at H1 ⊢;have e1:=jw b v0 aQ az w (H1.cellAt (b:=b) (t:=241) (vs:=[v0,v1]) (by simp[aK]) (j:=0) rfl) au (H1.rowAt (by simp[aO])) hs (by omega);have E1:=aq e1;have HH:=aq H1;have HS:=aq hs;have HL:=aq hL;have oZ:=aq kD;have Hb:=aq hb;clear H H1 e1 hs hL kD hb gX fQ;go_enter func222,ntmps222;go_wp2_with fail;refine(an E1).mono ?_;rintro e w2 ⟨at',qv,rfl,hF,hB⟩;have h3:=(an HH).below hB;have q1:w2.cell? ⟨b,1,none⟩=some v1:=h3.cellAt (t:=241) (vs:=[v0,v1]) (by simp[aK]) rfl
 have e2:=fj b (.slice none 0 0) v1 0 w2 q1 au [] (h3.rowAt (by simp[bg])) (by omega);have E2:=aq e2;have H3:=aq h3;clear HH hB E1 e2
 rcases hF.split with⟨rfl,a,x,c,rfl,ha,hx,nt⟩|⟨rfl,a,c,rfl,ha,nt,hhigh⟩
 ·obtain⟨n,hn⟩:=aa ((a++x::c).length);have Ge:n<=3:=by have:=an oZ;omega
  have r0:w2.ownsRow au 238 3 v0 n (flat (a++x::c)):=by rw[<-hn];exact h3.rowAt (by simp[aO])
  obtain⟨g0,cap0,rfl,lv,hm0⟩:=aZ r0 (by rw[<-hn];simp only[length_append,length_cons];omega);have q0:w2.cell? ⟨b,0,none⟩=some (.slice (some ⟨g0,0,none⟩) n cap0):=h3.cellAt (t:=241) (vs:=[.slice (some ⟨g0,0,none⟩) n cap0,v1]) (by simp[aK]) rfl;have e3:=qB [aK b (.slice (some ⟨g0,0,none⟩) n cap0) v1] h3 ha hn (by omega);have E3:=aq e3;have HX:=aq hx
  have haz:(at':Int)<=3:=by
   have:at'<n:=by rw[<-hn,<-ha];simp
   omega
  clear e3 r0 h3 hF nt ha hx hn q1;go_wp2_with fail;refine(an E2).mono ?_;rintro e w3 ⟨rfl,rfl⟩;simp only[decide_true];go_wp2_with fail;refine(an E3).mono ?_;rintro e w4 ⟨g4,cap4,rfl,_,_,H4⟩;simp only[cons_append,nil_append]at H4;have k0:w4.cell? ⟨b,0,none⟩=some (.slice (some ⟨g0,0,none⟩) n cap0):=H4.cellAt (t:=241) (vs:=[.slice (some ⟨g0,0,none⟩) n cap0,v1]) (by simp[aK]) rfl;have kf:w4.frozen? ⟨b,0,none⟩=false:=H4.frozenAt (t:=241) (vs:=[.slice (some ⟨g0,0,none⟩) n cap0,v1]) (by simp[aK]) 0;have H5:=aq (H4.store [] 0 (.slice (some ⟨g4,0,none⟩) (n-1) cap4) _ rfl)
  clear H4 E3 E2;go_wp2_with fail;go_ret;have hs:=an HS;have hx:=an HX;obtain⟨k',b1,n1,L1,h8⟩:=aw.shut [] (h:=0) (b:=b) (aQ:=a++c) (aM:=[]) (v0:=.slice (some ⟨g4,0,none⟩) (n-1) cap4) (v1:=v1) (l2:=l2) (an H5) (.inl ⟨rfl,rfl⟩) (by simp);refine⟨?_,k',by rw[b1];exact(an Hb).symm,?_,?_,?_,h8⟩
  ·rw[an HL,<-hx,sY hs (by simp)];rfl
  ·rw[L1,an HL,<-hx,Jf hs];simp[cJ]
  ·rw[n1,an oZ];simp
  ·rw[n1,an oZ];simp;omega
 ·have LN:=aq nt;have BZ:=aq hhigh;clear hF nt hhigh ha h3 q1;go_wp2_with fail;refine(an E2).mono ?_;rintro e w3 ⟨rfl,rfl⟩;simp only[decide_true];go_wp2_with fail;go_ret
  have dr:∀x∈a++c,x.az≠az:=fun x hx=>by
   rcases mem_append.1 hx with h1|h1
   ·exact fL (an LN x h1)
   ·exact(fL (an BZ x h1)).symm
  obtain⟨k',b1,n1,L1,h8⟩:=aw.shut [] (h:=0) (b:=b) (aQ:=a++c) (aM:=[]) (v0:=v0) (v1:=v1) (l2:=l2) (an H3) (.inl ⟨rfl,rfl⟩) (by simp);refine⟨?_,k',by rw[b1];exact(an Hb).symm,?_,?_,?_,h8⟩
  ·rw[an HL,pI dr];rfl
  ·rw[L1,an HL,nE dr];simp[cJ]
  ·rw[n1,an oZ];simp
  ·rw[n1,an oZ];simp
theorem Li (h:Nat) (ih:JR h) (au:Nat) (w0:World) (K0:Nat->Nat) (w:World) (k:bQ) (az:ByteArray) (l2:List aI) (H:aw au w0 K0 w (.sub (h+1) k::l2)) (hs:bf k.L) (kE:1<=k.c) (Vb:k.c<=3):
 Calls prog 222 #[.pointer (some ⟨k.b,0,none⟩),.string az] w fun e w'=>zL au w0 K0 (h+1) k az l2 e w':=by
 obtain⟨aQ,aM,v0,v1,kD,hL,gX,fQ,H1⟩:=H.open [];simp only[nil_append,Nat.add_sub_cancel]at H1;have jd:aM.length=aQ.length+1:=by rcases gX with⟨h,_⟩|⟨_,h⟩;omega;exact h
 rw[hL]at hs;obtain⟨b,hb⟩:=aa k.b;rw[hb]at H1 ⊢;have e1:=jw b v0 aQ az w (H1.cellAt (b:=b) (t:=241) (vs:=[v0,v1]) (by simp[aK]) (j:=0) rfl) au (H1.rowAt (by simp[aO])) (gX.sorted hs) (by omega);have E1:=aq e1;have HH:=aq H1;have HS:=aq hs;have HL:=aq hL;have oZ:=aq kD;have Hb:=aq hb;have lq:=aq fQ;have IH:=aq ih;have J4:=aq jd;clear H H1 e1 hs hL kD hb gX fQ ih jd;go_enter func222,ntmps222;go_wp2_with fail;refine(an E1).mono ?_;rintro e w2 ⟨at',qv,rfl,hF,hB⟩;have h3:=(an HH).below hB
 have jd:=an J4;have kD:=an oZ;obtain⟨n,hn⟩:=aa aQ.length;have r1:w2.ownsRow au 190 1 v1 (n+1) (aM.map fun y=>bK y.b):=by rw[<-hn,<-jd];exact h3.rowAt (by simp[bg])
 obtain⟨g1,cap1,rfl,CD,Dq⟩:=aZ r1 (by omega);have r0:w2.ownsRow au 238 3 v0 n (flat aQ):=by rw[<-hn];exact h3.rowAt (by simp[aO])
 obtain⟨g0,cap0,rfl,lv,hm0⟩:=aZ r0 (by omega);have q0:w2.cell? ⟨b,0,none⟩=some (.slice (some ⟨g0,0,none⟩) n cap0):=h3.cellAt (t:=241) (vs:=[.slice (some ⟨g0,0,none⟩) n cap0,.slice (some ⟨g1,0,none⟩) (n+1) cap1]) (by simp[aK]) rfl;have q1:w2.cell? ⟨b,1,none⟩=some (.slice (some ⟨g1,0,none⟩) (n+1) cap1):=h3.cellAt (t:=241) (vs:=[.slice (some ⟨g0,0,none⟩) n cap0,.slice (some ⟨g1,0,none⟩) (n+1) cap1]) (by simp[aK]) rfl;have e2:=fj b (.slice none 0 0) _ (n+1) w2 q1 au _ r1 (by omega);rw[show decide (n+1=0)=false from by simp]at e2
 have E2:=aq e2;have abe:at'<=n:=by rw[<-hn];exact hF.1
 have aeO:at'<aM.length:=by omega
 obtain⟨b8,kk,cq,bV,hks1⟩:∃b8 kk cq,aM=b8++kk::cq/\b8.length=at':=⟨aM.take at',aM[at'],aM.drop (at'+1),by rw[<-drop_eq_getElem_cons aeO,take_append_drop],by rw[length_take];omega⟩;have p1:=fI r1 (j:=at') (k:=kk) (by rw[bV,<-hks1];simp);have Ce:Fit kk:=an lq kk (by rw[bV];simp);have X8:=Ce.1;have X7:=Ce.2
 have RC:∀iC:bQ,∀j x,(b8++iC::cq)[j]? = some x->j≠at'->Fit x:=by
  intro iC j x hj dr;refine an lq x ?_;rw[bV]
  rcases Nat.lt_or_ge j b8.length with h1|h1
  ·rw[getElem?_append_left h1]at hj;simp[mem_of_getElem? hj]
  ·rw[getElem?_append_right h1]at hj;obtain⟨j',PY⟩:∃j',j-b8.length=j'+1:=⟨j-b8.length-1,by omega⟩;rw[PY,getElem?_cons_succ]at hj;simp[mem_of_getElem? hj]
 have Wx:∀iC:bQ,(b8++iC::cq).length=aQ.length+1:=fun iC=>by rw[bV]at jd;simpa using jd
 have Ws:∀(qX:List aG) (iC:bQ) (wx:World),qX.length=n->iC.c<=3->aw au w0 K0 wx (aK b (.slice (some ⟨g0,0,none⟩) n cap0) (.slice (some ⟨g1,0,none⟩) (n+1) cap1)::aO (.slice (some ⟨g0,0,none⟩) n cap0) qX::bg (.slice (some ⟨g1,0,none⟩) (n+1) cap1) (b8++iC::cq)::.subs h (b8++iC::cq)::l2)->
  Calls prog 262 #[.pointer (some ⟨b,0,none⟩),.int .i64 at'] wx fun e w'=>FU au w0 K0 b h (inter qX ((b8++iC::cq).map bQ.L)) qX.length l2 e w':=fun qX iC wx hl hc hx=>
  AK au w0 K0 wx b h at' qX (b8++iC::cq) iC _ _ l2 hx (by rw[Wx,hl,hn]) (by omega) (by omega) (by rw[<-hks1];simp) hc (RC iC)
 have j9:∀(qX:List aG) (iC:bQ) (wx:World) (r:Bool),qX.length=n->inter qX ((b8++iC::cq).map bQ.L)=dv k.L az->r=(cF k.L az).isSome->OpenAt au w0 K0 wx b h (inter qX ((b8++iC::cq).map bQ.L)) qX.length l2->zL au w0 K0 (h+1) k az l2 (.returned (.bool r)) wx:=by rintro qX iC wx r hl hM rfl ⟨its2,kids2,V0,V1,e1,e2,e3,e4,e5,e6⟩;obtain⟨k',b1,n1,L1,h8⟩:=e6.shut [] (h:=h+1) (.inr ⟨by omega,e4⟩) e5;refine⟨rfl,k',by rw[b1];exact(an Hb).symm,by rw[L1,e1,hM],by rw[n1,kD];omega,by rw[n1,kD];omega,h8⟩
 have HM:=aq Ws;have xJ:=aq j9;rw[bV]at h3;have h4:=(h3.take [aK b (.slice (some ⟨g0,0,none⟩) n cap0) (.slice (some ⟨g1,0,none⟩) (n+1) cap1),aO (.slice (some ⟨g0,0,none⟩) n cap0) aQ,bg (.slice (some ⟨g1,0,none⟩) (n+1) cap1) (b8++kk::cq)]).front [aK b (.slice (some ⟨g0,0,none⟩) n cap0) (.slice (some ⟨g1,0,none⟩) (n+1) cap1),aO (.slice (some ⟨g0,0,none⟩) n cap0) aQ,bg (.slice (some ⟨g1,0,none⟩) (n+1) cap1) (b8++kk::cq)];simp only[cons_append,nil_append]at h4;have H4:=aq h4
 have jv:∀(iC:bQ) (wx:World),iC.b=kk.b->aw au w0 K0 wx (.sub h iC::aK b (.slice (some ⟨g0,0,none⟩) n cap0) (.slice (some ⟨g1,0,none⟩) (n+1) cap1)::aO (.slice (some ⟨g0,0,none⟩) n cap0) aQ::bg (.slice (some ⟨g1,0,none⟩) (n+1) cap1) (b8++kk::cq)::.subs h (b8++cq)::l2)->aw au w0 K0 wx (aK b (.slice (some ⟨g0,0,none⟩) n cap0) (.slice (some ⟨g1,0,none⟩) (n+1) cap1)::aO (.slice (some ⟨g0,0,none⟩) n cap0) aQ::bg (.slice (some ⟨g1,0,none⟩) (n+1) cap1) (b8++iC::cq)::.subs h (b8++iC::cq)::l2):=by
  intro iC wx MI hx;have e:bg (.slice (some ⟨g1,0,none⟩) (n+1) cap1) (b8++kk::cq)=bg (.slice (some ⟨g1,0,none⟩) (n+1) cap1) (b8++iC::cq):=mX (by simp[MI]);rw[e]at hx;exact(((hx.front [_,_,_]).front [_,_,_]).front [_,_,_]).OP [_,_,_] b8 cq
 have HBk:=aq jv;have haz:(at':Int)<(n:Int)+1:=by omega
 have Hn:=aq hn;have YQ:=aq hks1;have M7:=aq bV;clear e2 h3 h4 r1 RC Wx Ws j9 jv HH hB E1 Ce
 rcases hF.split with⟨rfl,a,x,c,eP,ha,hx,nt⟩|⟨rfl,a,c,eP,ha,nt,hhigh⟩
 ·
  have Zo:at'<n:=by rw[<-hn,eP,<-ha];simp
  have hanz:(at':Int)<(n:Int):=by omega
  have e3:∀wx,aw au w0 K0 wx _->Calls prog 261 #[.pointer (some ⟨kk.b,0,none⟩)] wx fun e w'=>oz au w0 K0 h kk (aK b (.slice (some ⟨g0,0,none⟩) n cap0) (.slice (some ⟨g1,0,none⟩) (n+1) cap1)::aO (.slice (some ⟨g0,0,none⟩) n cap0) aQ::bg (.slice (some ⟨g1,0,none⟩) (n+1) cap1) (b8++kk::cq)::.subs h (b8++cq)::l2) e w':=fun wx hx=>tP h au w0 K0 wx kk _ hx X8 X7
  have E3:=aq e3
  obtain⟨ls,lsr,hls2⟩:∃l ls,cq.map bQ.L=l::ls:=by
   cases hq:cq with
   |nil=>rw[bV,hq,eP]at jd;simp at jd;omega
   |cons y ys=>exact⟨y.L,ys.map bQ.L,rfl⟩
  have kA:a.length=(b8.map bQ.L).length/\(x::c).length=(cq.map bQ.L).length:=by rw[bV,eP]at jd;simp only[length_append,length_cons]at jd;simp only[length_map,length_cons];omega
  have hint:∀(z:aG) (l:List aG),inter (a++z::c) (b8.map bQ.L++l::cq.map bQ.L)=pre a (b8.map bQ.L)++l++z::(ls++post c lsr):=fun z l=>by rw[dj a _ (z::c) l _ kA.1 (by simpa using kA.2),hls2];rfl
  have Sa:k.L=pre a (b8.map bQ.L)++kk.L++x::(ls++post c lsr):=by rw[an HL,bV,eP];simp only[map_append,map_cons];exact hint x kk.L
  have uz:bf k.L:=by rw[an HL];exact an HS
  have oO:true=(cF k.L az).isSome:=by rw[<-hx,sY uz (by rw[Sa];simp)];rfl
  have je:∀(y:aG) (iC:bQ),kk.L=iC.L++[y]->inter (a++y::c) ((b8++iC::cq).map bQ.L)=dv k.L az:=fun y iC hy=>by simp only[map_append,map_cons];rw[hint y iC.L,<-hx,Sa,Jf (by rw[<-Sa];exact uz),hy];simp
  have LP:=aq oO;have nJ:=aq je;have JI:=aq eP;have Ha:=aq ha;clear e3 hF nt hls2 kA hint Sa uz oO je eP ha hx hn kD hks1 bV jd r0;go_wp2_with fail;refine(an E2).mono ?_;rintro e w3 ⟨rfl,rfl⟩;go_wp2_with fail
  go_cut []from 7 (fun wc=>Hid (∃(y:aG) (iC:bQ),iC.c<=3/\kk.L=iC.L++[y]/\aw au w0 K0 wc (aK b (.slice (some ⟨g0,0,none⟩) n cap0) (.slice (some ⟨g1,0,none⟩) (n+1) cap1)::aO (.slice (some ⟨g0,0,none⟩) n cap0) (a++y::c)::bg (.slice (some ⟨g1,0,none⟩) (n+1) cap1) (b8++iC::cq)::.subs h (b8++iC::cq)::l2)))
  case first=>
   go_region_with ((go_at_call 261;refine(an E3 _ ?_).mono ?_;exact(an H4).drew;rintro e w4 ⟨y,iC,rfl,iU,hL4,WJ,hc4',H5⟩;have H6:=an HBk iC w4 iU H5;have k0:w4.cell? ⟨b,0,none⟩=some (.slice (some ⟨g0,0,none⟩) n cap0):=H6.cellAt (t:=241) (vs:=[.slice (some ⟨g0,0,none⟩) n cap0,.slice (some ⟨g1,0,none⟩) (n+1) cap1]) (by simp[aK]) rfl;have rr:w4.ownsRow au 238 3 (.slice (some ⟨g0,0,none⟩) n cap0) n (flat aQ):=(by rw[<-an Hn];exact H6.rowAt (by simp[aO,an Hn]));obtain⟨s1,s2,s3⟩:=iT rr (j:=at') (x:=x) (by rw[an JI,<-an Ha];simp);have f1:=rr.frozenAt (at'*3);have f2:=rr.frozenAt (at'*3+1);have f3:=rr.frozenAt (at'*3+2);have HH6:=aq H6;have HL4:=aq hL4;clear H5 H6 rr hL4 iU))
   all_goals (go_wp2_with fail;go_meet;exact⟨y,iC,by omega,an HL4,by
    have h7:=an HH6;have hn7:=an Hn;rw[an JI]at h7 hn7;exact Ad [aK b (.slice (some ⟨g0,0,none⟩) n cap0) (.slice (some ⟨g1,0,none⟩) (n+1) cap1)] (it:=y) h7 (an Ha) hn7⟩)
  case rest=>
  obtain⟨y,iC,WJ,hL4,H7⟩:=an hcut;have hly:(a++y::c).length=n:=by have h1:=an Hn;rw[an JI]at h1;simpa using h1
  have e5:=an HM (a++y::c) iC wc hly WJ H7;have E5:=aq e5;have hf:=an xJ (a++y::c) iC;have Hf:=aq fun wx=>hf wx true hly (an nJ y iC hL4) (an LP)
  clear hcut e5 H7 hf hL4 hly E3 E2 q0 q1 p1 H4;go_wp2_with fail;refine(an E5).mono ?_;rintro e w5 ⟨rfl,hO⟩;have HO:=aq hO;clear hO;go_wp2_with fail;go_ret;exact an Hf _ (an HO)
 ·
  have kA:a.length=(b8.map bQ.L).length/\c.length=(cq.map bQ.L).length:=by rw[bV,eP]at jd;simp only[length_append,length_cons]at jd;simp only[length_map];omega
  have Sa:k.L=pre a (b8.map bQ.L)++kk.L++post c (cq.map bQ.L):=by rw[an HL,bV,eP];simp only[map_append,map_cons];exact dj a _ c kk.L _ kA.1 kA.2
  have uz:bf k.L:=by rw[an HL];exact an HS
  have CA:=zt kA.1 (t:=kk.L++post c (cq.map bQ.L)) (az:=az) (by rw[<-append_assoc,<-Sa];exact uz) nt;have hph:=wP kA.2 (t:=pre a (b8.map bQ.L)++kk.L) (az:=az) (by rw[<-Sa];exact uz) hhigh;have II:bf kk.L:=by rw[Sa]at uz;exact uz.V8
  have oO:(cF kk.L az).isSome=(cF k.L az).isSome:=by rw[Sa,I4 CA hph]
  have je:∀(iC:bQ),iC.L=dv kk.L az->inter aQ ((b8++iC::cq).map bQ.L)=dv k.L az:=fun iC hy=>by rw[eP];simp only[map_append,map_cons];rw[dj a _ c _ _ kA.1 kA.2,hy,Sa,s9 CA hph]
  have e3:=an IH au w0 K0 w2 kk az _ (an H4) II (.inr X8) X7;obtain⟨r,hr⟩:=aa ((cF kk.L az).isSome);have E3:=aq e3;have Hr:=aq hr;have LP:=aq oO;have nJ:=aq je;clear e3 hF nt hhigh kA Sa uz CA hph II oO je eP ha hn kD hks1 bV jd r0 hr;go_wp2_with fail;refine(an E2).mono ?_;rintro e w3 ⟨rfl,rfl⟩;go_wp2_with fail;refine(an E3).mono ?_;rintro e w4 ⟨rfl,iC,iU,hL4,WJ,hc4',H5⟩;rw[an Hr];have H7:=an HBk iC w4 iU H5;have e5:=an HM aQ iC w4 (an Hn) (by omega) H7;have E5:=aq e5
  have hf:=an xJ aQ iC;have Hf:=aq fun wx=>hf wx r (an Hn) (an nJ iC hL4) (by rw[<-an Hr];exact an LP)
  clear e5 H7 H5 hf hL4 iU E3 E2 q0 q1 p1 H4;go_wp2_with fail;refine(an E5).mono ?_;rintro e w5 ⟨rfl,hO⟩;have HO:=aq hO;clear hO;go_wp2_with fail;go_ret;exact an Hf _ (an HO)
theorem DJ:∀h,JR h
 | 0=>fun au w0 K0 w k az l2 H hs _ h3=>O7 au w0 K0 w k az l2 H hs h3
 |h+1=>fun au w0 K0 w k az l2 H hs h1 h3=>Li h (DJ h) au w0 K0 w k az l2 H hs (h1.resolve_left (by omega)) h3
def yJ (au:Nat) (w0:World) (K0:Nat->Nat) (tb:Nat) (L:List aG) (az:ByteArray) (l2:List aI) (e:Ending) (w':World):Prop:=
 e=.returned (.bool (cF L az).isSome)/\fY au w0 K0 w' tb (dv L az) l2
theorem zT (au:Nat) (w0:World) (K0:Nat->Nat) (w:World) (tb:Nat) (L:List aG) (l2:List aI) (az:ByteArray) (HT:fY au w0 K0 w tb L l2):
 Calls prog 172 #[.pointer (some ⟨tb,0,none⟩),.string az] w fun e w'=>yJ au w0 K0 tb L az l2 e w':=by
 obtain⟨hs,h,k,hL,hc,kE,H⟩:=HT;have q0:w.cell? ⟨tb,0,none⟩=some (.pointer (some ⟨k.b,0,none⟩)):=H.cellAt (t:=192) (vs:=[bK k.b]) (by simp) rfl;have e1:=DJ h au w0 K0 w k az _ (H.front [_]) (by rw[hL];exact hs) kE hc;obtain⟨r,hr⟩:=aa ((cF k.L az).isSome);have E1:=aq e1;have HL:=aq hL;have HS:=aq hs;have Ts:=aq kE;have Hr:=aq hr;clear e1 H hL hs kE hr;go_enter func172,ntmps172;go_wp2_with fail;refine(an E1).mono ?_;rintro e w2 ⟨rfl,k2,cC,CE,OG,Vb,H2⟩;rw[an Hr];simp only[cons_append,nil_append]at H2
 rw[<-cC]at H2;obtain⟨aQ,aM,u0,u1,kD,hkL,gX,fQ,H3⟩:=H2.open [];simp only[nil_append]at H3;have q1:w2.cell? ⟨tb,0,none⟩=some (.pointer (some ⟨k.b,0,none⟩)):=by rw[<-cC];exact H3.cellAt (t:=192) (vs:=[bK k2.b]) (by simp) rfl
 have f1:w2.frozen? ⟨tb,0,none⟩=false:=H3.frozenAt (t:=192) (vs:=[bK k2.b]) (by simp) 0;have q2:w2.cell? ⟨k.b,0,none⟩=some u0:=by rw[<-cC];exact H3.cellAt (t:=241) (vs:=[u0,u1]) (by simp[aK]) rfl
 have q3:w2.cell? ⟨k.b,1,none⟩=some u1:=by rw[<-cC];exact H3.cellAt (t:=241) (vs:=[u0,u1]) (by simp[aK]) rfl
 have r0:w2.ownsRow au 238 3 u0 aQ.length (flat aQ):=H3.rowAt (by simp[aO]);have r1:w2.ownsRow au 190 1 u1 aM.length (aM.map fun y=>bK y.b):=H3.rowAt (by simp[bg]);obtain⟨n,hn⟩:=aa aQ.length;rw[hn]at r0;obtain⟨p0,cap0,rfl⟩:=nX r0;have e2:=fj k.b (.slice none 0 0) u1 aM.length w2 q3 au _ r1 (by rcases gX with⟨_,h0⟩|⟨_,h0⟩;rw[h0];simp;omega);have E2:=aq e2;have Vh:k2.L=dv L az:=by rw[CE,an HL]
 have hgf:r=(cF L az).isSome:=by rw[<-an Hr,an HL]
 have PS:bf (dv L az):=mM (an HS);have ri:=aq H2;have HLf:=aq Vh;have Hgf:=aq hgf;have Hsf:=aq PS;have oZ:=aq kD;have Hn:=aq hn
 by_cases oN:n=0
 ·subst oN
  rcases gX with⟨h0,jd⟩|⟨h0,jd⟩
  ·have hd:decide (aM.length=0)=true:=by rw[jd];rfl
   rw[hd]at E2;clear e2 hd jd r0 r1 H3 H2 hkL fQ kD hn Vh hgf PS E1 CE;go_wp2_with fail;refine(an E2).mono ?_;rintro e w3 ⟨rfl,rfl⟩;go_wp2_with fail;go_ret;exact⟨by rw[<-an Hgf];rfl,an Hsf,h,k2,an HLf,by omega,.inl h0,(an ri).front [_]⟩
  ·have hd:decide (aM.length=0)=false:=by rw[jd];simp
   rw[hd]at E2;have eP:aQ=[]:=List.length_eq_zero_iff.1 hn;subst eP
   obtain⟨c,bV⟩:∃c,aM=[c]:=by
    match aM,jd with
    |[c],_=>exact⟨c,rfl⟩
   subst bV;simp only[length_cons,length_nil]at r1;obtain⟨g1,cap1,rfl,_,_⟩:=aZ r1 (by omega);have p1:=fI r1 (j:=0) (k:=c) rfl;have hfc:Fit c:=fQ c (by simp);have MG:c.L=dv L az:=by rw[<-Vh,hkL];simp[inter]
   have h5:=(((H3.aD []).aD []).aD []);have h6:=h5.take [] (a:=[]) (d:=[]);have h7:=h6.aD [.sub (h-1) c];have h8:=h7.store [.sub (h-1) c] 0 (bK c.b) _ rfl;simp only[cons_append,nil_append,set_cons_zero]at h8;have H8:=aq h8;have W6:=aq MG;clear e2 hd jd r0 r1 H3 H2 hkL fQ kD Vh hgf PS E1 CE h5 h6 h7 h8 MG;go_wp2_with fail;refine(an E2).mono ?_;rintro e w3 ⟨rfl,rfl⟩;go_wp2_with fail;go_ret;exact⟨by rw[<-an Hgf];rfl,an Hsf,h-1,c,an W6,hfc.2,.inr hfc.1,(an H8).front [_]⟩
 ·have XY:((n:Int)==0)=false:=by rw[beq_eq_false_iff_ne];omega
  have aeu:1<=k2.c:=by omega
  clear e2 r0 r1 H3 H2 hkL fQ kD hn Vh hgf PS E1 CE gX E2;go_wp2_with fail;go_ret;exact⟨by rw[<-an Hgf];rfl,an Hsf,h,k2,an HLf,by omega,.inr aeu,(an ri).front [_]⟩
end Go.Proofs.YtphcnmlbieokoaaGreatDoor.T
