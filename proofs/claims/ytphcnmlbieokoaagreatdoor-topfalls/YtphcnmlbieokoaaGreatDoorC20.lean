import Derived.Test.YtphcnmlbieokoaaGreatDoorC9
import Derived.Test.YtphcnmlbieokoaaGreatDoorC19
set_option maxRecDepth 100000
set_option maxHeartbeats 16000000
set_option linter.unusedVariables false
set_option linter.unusedSimpArgs false
namespace Go.Proofs.YtphcnmlbieokoaaGreatDoor.S
open Go.RowKit List
instance:DecidableEq T.CH:=fun a b=>
 if h:a.az=b.az/\a.val=b.val/\a.gone=b.gone then isTrue (by cases a;cases b;simp_all)else isFalse (fun e=>h (by subst e;exact⟨rfl,rfl,rfl⟩))
def jM (x:bn):bn:=⟨x.az,⟨#[]⟩,true⟩
def dA:List bn->List bn->List bn
 |[],b=>b
 |x::a,[]=>jM x::dA a []
 |x::a,y::b=>if dR x.az y.az then jM x::dA a (y::b)else if dR y.az x.az then y::dA (x::a) b else if x=y then dA a b else y::dA a b
 termination_by a b=>a.length+b.length
theorem s9 {P a:List bn} {x:bn} (hP:∀i∈P,dR i.az x.az) (ha:∀i∈a,dR x.az i.az):dv (P++x::a) x.az=P++a:=by
 unfold dv;rw[filter_append,filter_cons];have h1:P.filter (fun y=>!decide (y.az=x.az))=P:=filter_eq_self.2 fun y hy=>by simp[fL (hP y hy)]
 have h2:a.filter (fun y=>!decide (y.az=x.az))=a:=filter_eq_self.2 fun y hy=>by simp[(fL (ha y hy)).symm]
 rw[h1,h2];simp
theorem tR (L:List bn) (x:bn):cP L (jM x)=dv L x.az:=by simp[cP,jM]
theorem j6 {P a:List bn}:bf (P++a)↔bf P/\bf a/\∀x∈P,∀y∈a,dR x.az y.az:=pairwise_append
theorem Pm (n:Nat):∀(P A B:List bn),A.length+B.length=n->bf (P++A)->bf (P++B)->(∀y∈B,y.gone=false)->cT (P++A) (dA A B)=P++B:=by
 induction n using Nat.strongRecOn with
 |_ n ih=>
 intro P A B hn hA hB hg;obtain⟨pA,sA,lA⟩:=j6.1 hA;obtain⟨_,sB,lB⟩:=j6.1 hB;have snoc:∀(y:bn) (b:List bn),(P++[y])++b=P++y::b:=fun y b=>by simp
 match A,B with
 |[],[]=>simp[dA,cT]
 |[],y::b=>
  have h1:cP P y=P++[y]:=by unfold cP;rw[if_neg (by rw[hg y (by simp)];decide)];have:=kM (it:=y) P [] (fun i hi=>lB i hi y (by simp));simpa[da]using this
  have h2:=ih (b.length) (by simp at hn;omega) (P++[y]) [] b (by simp) (by simpa using j6.2 ⟨pA,pairwise_singleton _ _,fun i hi j hj=>by rw[mem_singleton.1 hj];exact lB i hi y (by simp)⟩) (by rw[snoc];exact hB) (fun z hz=>hg z (by simp[hz]));rw[snoc y b]at h2;rw[<-h2];have e1:dA [] (y::b)=y::b:=by unfold dA;rfl
  have e2:dA [] b=b:=by unfold dA;rfl
  rw[e1,e2];simp only[cT,append_nil,foldl_cons,h1]
 |x::a,[]=>
  have h0:=List.pairwise_cons.1 sA
  have h1:cP (P++x::a) (jM x)=P++a:=by rw[tR];exact s9 (fun i hi=>lA i hi x (by simp)) h0.1
  have h2:=ih (a.length) (by simp at hn;omega) P a [] (by simp) (j6.2 ⟨pA,h0.2,fun i hi j hj=>lA i hi j (by simp[hj])⟩) (by simpa using pA) (fun z hz=>by cases hz);rw[<-h2];have e1:dA (x::a) []=jM x::dA a []:=by rw[dA]
  rw[e1];simp only[cT,foldl_cons,h1]
 |x::a,y::b=>
  have h0:=List.pairwise_cons.1 sA;have k0:=List.pairwise_cons.1 sB;have OL:bf (P++a):=j6.2 ⟨pA,h0.2,fun i hi j hj=>lA i hi j (by simp[hj])⟩;have hgy:y.gone=false:=hg y (by simp);have put:∀L:List bn,cP L y=da L y:=fun L=>by unfold cP;rw[if_neg (by rw[hgy];decide)]
  have hPy:∀i∈P,dR i.az y.az:=fun i hi=>lB i hi y (by simp)
  rw[dA]
  split
  ·rename_i hl
   have h1:cP (P++x::a) (jM x)=P++a:=by rw[tR];exact s9 (fun i hi=>lA i hi x (by simp)) h0.1
   rw[<-ih (a.length+(b.length+1)) (by simp at hn;omega) P a (y::b) (by simp) OL hB hg];simp only[cT,foldl_cons,h1]
  split
  ·rename_i _ hl
   have hxa:∀i∈x::a,dR y.az i.az:=fun i hi=>by
    rcases mem_cons.1 hi with rfl|hi
    ·exact hl
    ·exact eZ hl (h0.1 i hi)
   have h1:cP (P++x::a) y=P++y::x::a:=by rw[put];exact zr P (x::a) hPy hxa
   have h2:=ih (a.length+1+b.length) (by simp at hn;omega) (P++[y]) (x::a) b (by simp) (by rw[snoc];exact j6.2 ⟨pA,List.pairwise_cons.2 ⟨hxa,sA⟩,fun i hi j hj=>by
    rcases mem_cons.1 hj with rfl|hj
    ·exact hPy i hi
    ·exact lA i hi j hj⟩) (by rw[snoc];exact hB) (fun z hz=>hg z (by simp[hz]))
   rw[snoc,snoc]at h2;rw[<-h2];simp only[cT,foldl_cons,h1]
  ·rename_i n1 n2
   have hk:x.az=y.az:=by
    rcases mH x.az y.az with h|h|h
    ·exact absurd h n1
    ·exact h
    ·exact absurd h n2
   have h2:=ih (a.length+b.length) (by simp at hn;omega) (P++[y]) a b (by simp) (by rw[snoc];exact j6.2 ⟨pA,List.pairwise_cons.2 ⟨fun i hi=>by rw[<-hk];exact h0.1 i hi,h0.2⟩,fun i hi j hj=>by
    rcases mem_cons.1 hj with rfl|hj
    ·exact hPy i hi
    ·exact lA i hi j (by simp[hj])⟩) (by rw[snoc];exact hB) (fun z hz=>hg z (by simp[hz]))
   rw[snoc,snoc]at h2;rw[<-h2]
   split
   ·rename_i e;subst e;rfl
   ·have h1:cP (P++x::a) y=P++y::a:=by rw[put];exact sL P a hPy hk
    simp only[cT,foldl_cons,h1]
theorem BI {A B:List bn} (hA:bf A) (hB:bf B) (hg:∀y∈B,y.gone=false):cT A (dA A B)=B:=Pm _ [] A B rfl hA hB hg
end Go.Proofs.YtphcnmlbieokoaaGreatDoor.S
namespace Go.Proofs.YtphcnmlbieokoaaGreatDoor.T
open Go.RowKit Go.Lib List Go.Proofs.Tryz
theorem FM (b:List CH):S.dA [] b=b:=by unfold S.dA;rfl
theorem SQ (x:CH) (a:List CH):S.dA (x::a) []=S.jM x::S.dA a []:=by rw[S.dA]
theorem Yt {x y:CH} (h:dR x.az y.az) (a b:List CH):S.dA (x::a) (y::b)=S.jM x::S.dA a (y::b):=by
 rw[S.dA,if_pos (show S.dR x.az y.az from h)]
theorem Yu {x y:CH} (h:¬dR x.az y.az) (h2:dR y.az x.az) (a b:List CH):S.dA (x::a) (y::b)=y::S.dA (x::a) b:=by
 rw[S.dA,if_neg (show ¬S.dR x.az y.az from h),if_pos (show S.dR y.az x.az from h2)]
theorem Yv {x y:CH} (h:x.az=y.az) (a b:List CH):S.dA (x::a) (y::b)=if x=y then S.dA a b else y::S.dA a b:=by
 rw[S.dA,if_neg (by rw[h];exact S.eH _),if_neg (by rw[h];exact S.eH _)]
theorem Ma {w:World} {au n:Nat} {v:Value} {xs:List Value} (h:w.ownsRow au 86 3 v n xs):∃p g aU,v=.slice p n aU/\n<=aU/\aU<=9223372036854775807/\(0<n->p=some ⟨g,0,none⟩):=by
 rcases Nat.eq_zero_or_pos n with h0|h0
 ·obtain⟨p,c,hv,h1,h2⟩:=S.cI h;exact⟨p,0,c,hv,h1,h2,fun h=>absurd h (by omega)⟩
 ·obtain⟨g,c,hv,h1,h2⟩:=aZ h h0;exact⟨_,g,c,hv,h1,h2,fun _=>rfl⟩
theorem Bw {A:List CH} {i:Nat} {x:CH} (h:A[i]? = some x):A.drop i=x::A.drop (i+1):=by
 obtain⟨hi,rfl⟩:=List.getElem?_eq_some_iff.1 h;exact drop_eq_getElem_cons hi
theorem uT {w wv:World} {P:World->Prop} (H:Hid (∀wx,Below w.heap.size w wx->P wx)) (hb:Hid (Below w.heap.size w wv)) (q:cO wv):P q.wld:=an H q.wld ((an hb).trans (q.bel.mono (an hb).size))
theorem bc {w wo:World} {l:List aI} (hb:Hid (Below w.heap.size w wo)) (h:Hid (H0 w wo l)) (u:cO wo):Below w.heap.size w u.wld/\H0 w u.wld l:=⟨(an hb).trans (u.bel.mono (an hb).size),(an h).step u.bel⟩
theorem H0.DT {w0 w:World} {v:Value} {R:List CH} (h:H0 w0 w [cL v R]) {A:Nat} {c:CH} (hc:w.heap[A]? = some (.cells (iZ c).toArray 86 (0,0))) (hn:R.length<=2000) (ty:TypeId):
 ∃v' w',(Builtin.append_ #[38,38] ty #[v,.slice (some ⟨A,0,none⟩) 1 1]).run prog w=.ok v' w'/\H0 w0 w' [cL v' (R++[c])]:=by
 obtain⟨i0,hi,hz0,fE,fD⟩:=info_parts AS;have hv:w.ownsRow w0.heap.size 86 3 v R.length (gF R):=aw.sat h (cL v R) (by simp);have hb:w0.heap.size<=w.heap.size:=(H0.below h).size
 obtain⟨v',w',hr,ho,hg,_,ha⟩:=run_append_own_at (P:=prog) w w0.heap.size 38 ty 86 i0 _ 3 40 underlying38 hi hz0 fE fD rfl (by decide) v _ _ hv ⟨A,0,none⟩ 1 1 (iZ c) rfl (fun j u hj=>by
  rw[Addr.add_lit,Nat.zero_add,cell_of_row _ _ j _ 86 (0,0) hc]
  simpa using hj) (fun u hu=>by simp[iZ]at hu;rcases hu with rfl|rfl|rfl<;>rfl) (by unfold maxLen;omega) (by omega) hb
 refine⟨v',w',hr,?_⟩;rw[<-Bm]at ho;have e:R.length+1=(R++[c]).length:=by simp
 rw[e]at ho;exact aw.grow [] h hg ho (ha.imp id fun h=>⟨_,h,Nat.le_refl _⟩)
theorem Js {w:World} {b1 b2 na nb:Nat} {va vb:Value} {A B:List CH} (ha:w.ownsRow b1 86 3 va na (gF A)) (hb:w.ownsRow b2 86 3 vb nb (gF B)) (JY:A.length=na) (Gd:B.length=nb) (hma:na<=1000) (My:nb<=1000):
 Calls prog 60 #[va,vb] w fun e w'=>∃v,e=.returned v/\H0 w w' [cL v (S.dA A B)]:=by
 obtain⟨P1,g1,cap1,rfl,kE,hc1m,Dm⟩:=Ma ha;obtain⟨P2,g2,cap2,rfl,OG,hc2m,JW⟩:=Ma hb
 have HA:Hid (∀j x,A[j]? = some x->∀wx,Below w.heap.size w wx->wx.cell? ⟨g1,j*3,none⟩=some (.string x.az)/\wx.cell? ⟨g1,j*3+1,none⟩=some (.string x.val)/\wx.cell? ⟨g1,j*3+2,none⟩=some (.bool x.gone)):=fun j x hx wx mg=>by
  have hl:j<na:=by rw[<-JY];exact(List.getElem?_eq_some_iff.1 hx).1
  rw[Dm (by omega)]at ha;obtain⟨h0,h1,h2⟩:=vS ha hx;exact⟨cell_later mg h0,cell_later mg h1,cell_later mg h2⟩
 have HB:Hid (∀j x,B[j]? = some x->∀wx,Below w.heap.size w wx->wx.cell? ⟨g2,j*3,none⟩=some (.string x.az)/\wx.cell? ⟨g2,j*3+1,none⟩=some (.string x.val)/\wx.cell? ⟨g2,j*3+2,none⟩=some (.bool x.gone)):=fun j x hx wx mg=>by
  have hl:j<nb:=by rw[<-Gd];exact(List.getElem?_eq_some_iff.1 hx).1
  rw[JW (by omega)]at hb;obtain⟨h0,h1,h2⟩:=vS hb hx;exact⟨cell_later mg h0,cell_later mg h1,cell_later mg h2⟩
 have Hn1:=aq JY;have Hn2:=aq Gd;have HS:Hid (H0 w w [cL (.slice none 0 0) []]):=H0.fJ (H0.start w);have HC0:Hid (S.dA A B=[]++S.dA (A.drop 0) (B.drop 0)):=by show _=_;simp
 obtain⟨Z,hZ⟩:=aa (S.dA A B);rw[hZ]at HC0 ⊢;clear ha hb JY Gd hZ;go_enter func60,ntmps60;go_wp2_with fail
 go_loopg [0,1,5] (na+nb+1) (fun k v0 v1 v5 wr=>∃(i j ma mb:Nat) (p0 p1:Option Addr) (e0 e1:Nat),ma+mb<k/\ma+i=na/\mb+j=nb/\v0=.slice p0 ma e0/\v1=.slice p1 mb e1/\ma<=e0/\e0<=9223372036854775807/\mb<=e1/\e1<=9223372036854775807/\(0<ma->p0=some ⟨g1,i*3,none⟩)/\(0<mb->p1=some ⟨g2,j*3,none⟩)/\∃(R:List CH) (u5:Value),u5=v5/\R.length<=i+j/\Hid (Z=R++S.dA (A.drop i) (B.drop j))/\Hid (H0 w wr [cL u5 R]))
 case atStart=>exact⟨0,0,na,nb,_,_,cap1,cap2,by omega,by omega,by omega,rfl,rfl,kE,hc1m,OG,hc2m,fun h=>by simpa using Dm h,fun h=>by simpa using JW h,[],_,rfl,by simp,HC0,HS⟩
 case round=>
  obtain⟨i,j,ma,mb,p0,p1,e0,e1,hkm,hmi,hmj,rfl,rfl,A5,hl0m,rY,hl1m,Rz,Ry,R,u5,rfl,J2,Gm,HI⟩:=hrel;clear HS HC0 Dm JW;have uF:=H0.below (an HI);have kB:=aq uF
  by_cases hm0:0<ma
  ·obtain rfl:=Rz hm0;obtain⟨x,hx⟩:∃x,A[i]? = some x:=⟨A[i]'(by rw[an Hn1];omega),getElem?_eq_getElem _⟩;have OE:=Bw hx;have HX:Hid (∀wx,Below w.heap.size w wx->wx.cell? ⟨g1,i*3,none⟩=some (.string x.az)/\wx.cell? ⟨g1,i*3+1,none⟩=some (.string x.val)/\wx.cell? ⟨g1,i*3+2,none⟩=some (.bool x.gone)):=an HA i x hx;have za0:(0:Int)<(ma:Int):=by omega
   have za1:(1:Int)<=(ma:Int):=by omega
   have za2:((ma:Int)==0)=false:=by simp;omega
   by_cases oN:0<mb
   ·obtain rfl:=Ry oN;obtain⟨y,hy⟩:∃y,B[j]? = some y:=⟨B[j]'(by rw[an Hn2];omega),getElem?_eq_getElem _⟩;have KV:=Bw hy;have HY:Hid (∀wx,Below w.heap.size w wx->wx.cell? ⟨g2,j*3,none⟩=some (.string y.az)/\wx.cell? ⟨g2,j*3+1,none⟩=some (.string y.val)/\wx.cell? ⟨g2,j*3+2,none⟩=some (.bool y.gone)):=an HB j y hy;have zb0:(0:Int)<(mb:Int):=by omega
    have zb1:(1:Int)<=(mb:Int):=by omega
    have zb2:((mb:Int)==0)=false:=by simp;omega
    by_cases eO:dR x.az y.az
    ·have mw:=Yt eO (A.drop (i+1)) (B.drop (j+1));rw[<-KV]at mw;have mw:S.dA (A.drop i) (B.drop j)=S.jM x::S.dA (A.drop (i+1)) (B.drop j):=by rw[OE];exact mw
     have PG:Hid (Z=(R++[S.jM x])++S.dA (A.drop (i+1)) (B.drop j)):=by show _=_;rw[an Gm];simp[mw]
     have IQ:Op.bytesLess x.az.toList y.az.toList=true:=by rw[kQ];exact decide_eq_true eO
     obtain⟨xk,xv,xg⟩:=x;obtain⟨yk,yv,yg⟩:=y;simp only at IQ HX HY;have E8:=IQ;have x0:=fun q:cO wr=>(uT HX kB q).1
     have x1:=fun q:cO wr=>(uT HX kB q).2.1
     have x2:=fun q:cO wr=>(uT HX kB q).2.2
     have y0:=fun q:cO wr=>(uT HY kB q).1
     have y1:=fun q:cO wr=>(uT HY kB q).2.1
     have y2:=fun q:cO wr=>(uT HY kB q).2.2
     clear x1 x2 y1 y2 hx hy OE KV mw eO uF Rz HA HB Gm;go_wp2_with fail;refine bG (by kernel_rfl) (by kernel_rfl) ?_
     repeat (go_big_quiet_step (fail))
     refine wpQuiet_nil ?_;rintro _ ⟨uq,rfl⟩;obtain⟨cC,h2⟩:=bc kB HI uq;generalize uq.wld=w2 at cC h2;have nK:=aq cC;have H2:=aq h2;clear cC h2;clear x0 y0;have x0:=(an HX w2 (an nK)).1;have h5:=H0.xD (an H2) (.cells #[.string xk,.string ⟨#[]⟩,.bool true] 86);obtain⟨v6,w6,lX,h6⟩:=H0.DT h5 (c:=S.jM ⟨xk,xv,xg⟩) (heap_alloc_new w2 _) (by omega) 38;have zJ:=aq lX;have H6:=aq h6;clear h5 lX h6;clear HX HY HI H2 nK kB
     go_wp2_with (at_builtin;refine bN rfl _ _ 38 38 rfl _ _ rfl rfl (an zJ) ?_)
     all_goals
      go_roundg (ma+mb)
      case measure=>omega
      case rel=>exact⟨i+1,j,ma-1,mb,_,_,_,_,by omega,by omega,by omega,rfl,rfl,by omega,by omega,by omega,by omega,fun hh=>(by first|(exfalso;omega)|exact congrArg (fun o=>some (⟨g1,o,none⟩:Addr)) (by omega:_=(i+1)*3)),(by first|exact fun _=>rfl|exact fun h=>absurd h (by omega)|exact Ry),R++[S.jM ⟨xk,xv,xg⟩],v6,rfl,by first|omega|(simp;omega),PG,H6⟩
    ·have IQ:Op.bytesLess x.az.toList y.az.toList=false:=by rw[kQ];exact decide_eq_false eO
     by_cases nO:dR y.az x.az
     ·have mw:=Yu eO nO (A.drop (i+1)) (B.drop (j+1));rw[<-OE]at mw;have mw:S.dA (A.drop i) (B.drop j)=y::S.dA (A.drop i) (B.drop (j+1)):=by rw[KV];exact mw
      have PG:Hid (Z=(R++[y])++S.dA (A.drop i) (B.drop (j+1))):=by show _=_;rw[an Gm];simp[mw]
      have E8:Op.bytesLess y.az.toList x.az.toList=true:=by rw[kQ];exact decide_eq_true nO
      obtain⟨xk,xv,xg⟩:=x;obtain⟨yk,yv,yg⟩:=y;simp only at IQ E8 HX HY;have x0:=fun q:cO wr=>(uT HX kB q).1
      have x1:=fun q:cO wr=>(uT HX kB q).2.1
      have x2:=fun q:cO wr=>(uT HX kB q).2.2
      have y0:=fun q:cO wr=>(uT HY kB q).1
      have y1:=fun q:cO wr=>(uT HY kB q).2.1
      have y2:=fun q:cO wr=>(uT HY kB q).2.2
      clear x1 x2 y1 y2 hx hy OE KV mw eO nO uF Ry HA HB Gm;go_wp2_with fail;refine bG (by kernel_rfl) (by kernel_rfl) ?_
      repeat (go_big_quiet_step (fail))
      refine wpQuiet_nil ?_;rintro _ ⟨uq,rfl⟩;obtain⟨cC,h2⟩:=bc kB HI uq;generalize uq.wld=w2 at cC h2;have nK:=aq cC;have H2:=aq h2;clear cC h2;clear x0 y0;have x0:=fun q:cO w2=>(uT HX nK q).1
      have x1:=fun q:cO w2=>(uT HX nK q).2.1
      have x2:=fun q:cO w2=>(uT HX nK q).2.2
      have y0:=fun q:cO w2=>(uT HY nK q).1
      have y1:=fun q:cO w2=>(uT HY nK q).2.1
      have y2:=fun q:cO w2=>(uT HY nK q).2.2
      clear x1 x2 y1 y2;go_wp2_with fail;refine bG (by kernel_rfl) (by kernel_rfl) ?_
      repeat (go_big_quiet_step (fail))
      refine wpQuiet_nil ?_;rintro _ ⟨uq,rfl⟩;obtain⟨hQ,h3⟩:=bc nK H2 uq;generalize uq.wld=w3 at hQ h3;have q9:=aq hQ;have H3:=aq h3;clear hQ h3;clear x0 y0;have y0:=(an HY w3 (an q9)).1;have y1:=(an HY w3 (an q9)).2.1;have y2:=(an HY w3 (an q9)).2.2;have h5:=H0.xD (an H3) (.cells #[.string yk,.string yv,.bool yg] 86);obtain⟨v6,w6,lX,h6⟩:=H0.DT h5 (c:=⟨yk,yv,yg⟩) (heap_alloc_new w3 _) (by omega) 38;have zJ:=aq lX;have H6:=aq h6;clear h5 lX h6;clear HX HY HI H2 H3 nK q9 kB
      go_wp2_with (at_builtin;refine bN rfl _ _ 38 38 rfl _ _ rfl rfl (an zJ) ?_)
      all_goals
       go_roundg (ma+mb)
       case measure=>omega
       case rel=>exact⟨i,j+1,ma,mb-1,_,_,_,_,by omega,by omega,by omega,rfl,rfl,by omega,by omega,by omega,by omega,(by first|exact fun _=>rfl|exact fun h=>absurd h (by omega)|exact Rz),fun hh=>(by first|(exfalso;omega)|exact congrArg (fun o=>some (⟨g2,o,none⟩:Addr)) (by omega:_=(j+1)*3)),R++[⟨yk,yv,yg⟩],v6,rfl,by first|omega|(simp;omega),PG,H6⟩
     ·have X4:x.az=y.az:=by
       rcases mH x.az y.az with h|h|h
       ·exact absurd h eO
       ·exact h
       ·exact absurd h nO
      have E8:Op.bytesLess y.az.toList x.az.toList=false:=by rw[kQ];exact decide_eq_false nO
      have mw:=Yv X4 (A.drop (i+1)) (B.drop (j+1));rw[<-OE,<-KV]at mw;obtain⟨xk,xv,xg⟩:=x;obtain⟨yk,yv,yg⟩:=y;simp only at IQ E8 HX HY X4;subst X4;have x0:=fun q:cO wr=>(uT HX kB q).1
      have x1:=fun q:cO wr=>(uT HX kB q).2.1
      have x2:=fun q:cO wr=>(uT HX kB q).2.2
      have y0:=fun q:cO wr=>(uT HY kB q).1
      have y1:=fun q:cO wr=>(uT HY kB q).2.1
      have y2:=fun q:cO wr=>(uT HY kB q).2.2
      have nS:(xk.toList==xk.toList)=true:=by simp
      clear x1 x2 y1 y2 hx hy OE KV eO nO uF Rz Ry HA HB;have Zy:=aq mw;clear mw;go_wp2_with fail;refine bG (by kernel_rfl) (by kernel_rfl) ?_
      repeat (go_big_quiet_step (fail))
      refine wpQuiet_nil ?_;rintro _ ⟨uq,rfl⟩;obtain⟨cC,h2⟩:=bc kB HI uq;generalize uq.wld=w2 at cC h2;have nK:=aq cC;have H2:=aq h2;clear cC h2;clear x0 y0;have x0:=fun q:cO w2=>(uT HX nK q).1
      have x1:=fun q:cO w2=>(uT HX nK q).2.1
      have x2:=fun q:cO w2=>(uT HX nK q).2.2
      have y0:=fun q:cO w2=>(uT HY nK q).1
      have y1:=fun q:cO w2=>(uT HY nK q).2.1
      have y2:=fun q:cO w2=>(uT HY nK q).2.2
      clear x1 x2 y1 y2;go_wp2_with fail;refine bG (by kernel_rfl) (by kernel_rfl) ?_
      repeat (go_big_quiet_step (fail))
      refine wpQuiet_nil ?_;rintro _ ⟨uq,rfl⟩;obtain⟨hQ,h3⟩:=bc nK H2 uq;generalize uq.wld=w3 at hQ h3;have q9:=aq hQ;have H3:=aq h3;clear hQ h3;clear x0 y0;have x0:=fun q:cO w3=>(uT HX q9 q).1
      have x1:=fun q:cO w3=>(uT HX q9 q).2.1
      have x2:=fun q:cO w3=>(uT HX q9 q).2.2
      have y0:=fun q:cO w3=>(uT HY q9 q).1
      have y1:=fun q:cO w3=>(uT HY q9 q).2.1
      have y2:=fun q:cO w3=>(uT HY q9 q).2.2
      have aa8:((xv.toList==yv.toList)=true/\(xg==yg)=true)∨((xv.toList==yv.toList)=false)∨((xv.toList==yv.toList)=true/\(xg==yg)=false):=by cases (xv.toList==yv.toList)<;>cases (xg==yg)<;>simp
      rcases aa8 with⟨q1,q2⟩|q1|⟨q1,q2⟩
      ·have Wf:(⟨xk,xv,xg⟩:CH)=⟨xk,yv,yg⟩:=by
        have e1:xv=yv:=by
         have:xv.toList=yv.toList:=by simpa using q1
         rw[Lib.toList_data,Lib.toList_data]at this;exact ByteArray.ext (Array.toList_inj.1 this)
        have e2:xg=yg:=by simpa using q2
        rw[e1,e2]
       have PG:Hid (Z=R++S.dA (A.drop (i+1)) (B.drop (j+1))):=by show _=_;rw[an Gm,an Zy,if_pos Wf]
       clear Gm Zy Wf;go_wp2_with fail;refine bG (by kernel_rfl) (by kernel_rfl) ?_
       repeat (go_big_quiet_step (fail))
       refine wpQuiet_nil ?_;rintro _ ⟨uq,rfl⟩;obtain⟨iU,h4⟩:=bc q9 H3 uq;generalize uq.wld=w4 at iU h4;have Tu:=aq iU;have H4:=aq h4;clear iU h4;clear x0 x1 x2 y0 y1 y2;go_wp2_with fail;refine bG (by kernel_rfl) (by kernel_rfl) ?_
       repeat (go_big_quiet_step (fail))
       refine wpQuiet_nil ?_;rintro _ ⟨uq,rfl⟩;obtain⟨qR,h5⟩:=bc Tu H4 uq;generalize uq.wld=w5 at qR h5;have Hb5:=aq qR;have H5:=aq h5;clear qR h5;clear HX HY HI H2 H3 H4 nK q9 Tu Hb5 kB;go_wp2_with fail
       all_goals
        go_roundg (ma+mb)
        case measure=>omega
        case rel=>exact⟨i+1,j+1,ma-1,mb-1,_,_,_,_,by omega,by omega,by omega,rfl,rfl,by omega,by omega,by omega,by omega,fun hh=>(by first|(exfalso;omega)|exact congrArg (fun o=>some (⟨g1,o,none⟩:Addr)) (by omega:_=(i+1)*3)),fun hh=>(by first|(exfalso;omega)|exact congrArg (fun o=>some (⟨g2,o,none⟩:Addr)) (by omega:_=(j+1)*3)),R,u5,rfl,by first|omega|(simp;omega),PG,H5⟩
      ·have Wf:¬(⟨xk,xv,xg⟩:CH)=⟨xk,yv,yg⟩:=by
        intro h;injection h with _ h1 h2;rw[h1]at q1;simp at q1
       have PG:Hid (Z=(R++[⟨xk,yv,yg⟩])++S.dA (A.drop (i+1)) (B.drop (j+1))):=by show _=_;rw[an Gm,an Zy,if_neg Wf];simp
       clear Gm Zy Wf;go_wp2_with fail;refine bG (by kernel_rfl) (by kernel_rfl) ?_
       repeat (go_big_quiet_step (fail))
       refine wpQuiet_nil ?_;rintro _ ⟨uq,rfl⟩;obtain⟨iU,h4⟩:=bc q9 H3 uq;generalize uq.wld=w4 at iU h4;have Tu:=aq iU;have H4:=aq h4;clear iU h4;clear x0 x1 x2 y0 y1 y2;have y0:=(an HY w4 (an Tu)).1;have y1:=(an HY w4 (an Tu)).2.1;have y2:=(an HY w4 (an Tu)).2.2;have h5:=H0.xD (an H4) (.cells #[.string xk,.string yv,.bool yg] 86);obtain⟨v6,w6,lX,h6⟩:=H0.DT h5 (c:=⟨xk,yv,yg⟩) (heap_alloc_new w4 _) (by omega) 38;have zJ:=aq lX;have H6:=aq h6;clear h5 lX h6;clear HX HY HI H2 H3 H4 nK q9 kB
       go_wp2_with (at_builtin;refine bN rfl _ _ 38 38 rfl _ _ rfl rfl (an zJ) ?_)
       refine bG (by kernel_rfl) (by kernel_rfl) ?_
       repeat (go_big_quiet_step (fail))
       refine wpQuiet_nil ?_;intro _ hw';obtain⟨Xm,hw''⟩:=hw';subst hw'';have H7:Hid (H0 w Xm.wld [cL v6 (R++[⟨xk,yv,yg⟩])]):=(an H6).step Xm.bel;generalize Xm.wld=w7 at H7;clear H6 zJ y0 y1 y2;go_wp2_with fail
       all_goals
        go_roundg (ma+mb)
        case measure=>omega
        case rel=>exact⟨i+1,j+1,ma-1,mb-1,_,_,_,_,by omega,by omega,by omega,rfl,rfl,by omega,by omega,by omega,by omega,fun hh=>(by first|(exfalso;omega)|exact congrArg (fun o=>some (⟨g1,o,none⟩:Addr)) (by omega:_=(i+1)*3)),fun hh=>(by first|(exfalso;omega)|exact congrArg (fun o=>some (⟨g2,o,none⟩:Addr)) (by omega:_=(j+1)*3)),R++[⟨xk,yv,yg⟩],v6,rfl,by first|omega|(simp;omega),PG,H7⟩
      ·have Wf:¬(⟨xk,xv,xg⟩:CH)=⟨xk,yv,yg⟩:=by
        intro h;injection h with _ h1 h2;rw[h2]at q2;simp at q2
       have PG:Hid (Z=(R++[⟨xk,yv,yg⟩])++S.dA (A.drop (i+1)) (B.drop (j+1))):=by show _=_;rw[an Gm,an Zy,if_neg Wf];simp
       clear Gm Zy Wf;go_wp2_with fail;refine bG (by kernel_rfl) (by kernel_rfl) ?_
       repeat (go_big_quiet_step (fail))
       refine wpQuiet_nil ?_;rintro _ ⟨uq,rfl⟩;obtain⟨iU,h4⟩:=bc q9 H3 uq;generalize uq.wld=w4 at iU h4;have Tu:=aq iU;have H4:=aq h4;clear iU h4;clear x0 x1 x2 y0 y1 y2;have y0:=(an HY w4 (an Tu)).1;have y1:=(an HY w4 (an Tu)).2.1;have y2:=(an HY w4 (an Tu)).2.2;have h5:=H0.xD (an H4) (.cells #[.string xk,.string yv,.bool yg] 86);obtain⟨v6,w6,lX,h6⟩:=H0.DT h5 (c:=⟨xk,yv,yg⟩) (heap_alloc_new w4 _) (by omega) 38;have zJ:=aq lX;have H6:=aq h6;clear h5 lX h6;clear HX HY HI H2 H3 H4 nK q9 kB
       go_wp2_with (at_builtin;refine bN rfl _ _ 38 38 rfl _ _ rfl rfl (an zJ) ?_)
       refine bG (by kernel_rfl) (by kernel_rfl) ?_
       repeat (go_big_quiet_step (fail))
       refine wpQuiet_nil ?_;intro _ hw';obtain⟨Xm,hw''⟩:=hw';subst hw'';have H7:Hid (H0 w Xm.wld [cL v6 (R++[⟨xk,yv,yg⟩])]):=(an H6).step Xm.bel;generalize Xm.wld=w7 at H7;clear H6 zJ y0 y1 y2;go_wp2_with fail
       all_goals
        go_roundg (ma+mb)
        case measure=>omega
        case rel=>exact⟨i+1,j+1,ma-1,mb-1,_,_,_,_,by omega,by omega,by omega,rfl,rfl,by omega,by omega,by omega,by omega,fun hh=>(by first|(exfalso;omega)|exact congrArg (fun o=>some (⟨g1,o,none⟩:Addr)) (by omega:_=(i+1)*3)),fun hh=>(by first|(exfalso;omega)|exact congrArg (fun o=>some (⟨g2,o,none⟩:Addr)) (by omega:_=(j+1)*3)),R++[⟨xk,yv,yg⟩],v6,rfl,by first|omega|(simp;omega),PG,H7⟩
   ·have My:mb=0:=by omega
    subst My;have KV:B.drop j=[]:=drop_eq_nil_of_le (by rw[an Hn2];omega);have mw:S.dA (A.drop i) (B.drop j)=S.jM x::S.dA (A.drop (i+1)) (B.drop j):=by rw[OE,KV];exact SQ x _
    have PG:Hid (Z=(R++[S.jM x])++S.dA (A.drop (i+1)) (B.drop j)):=by show _=_;rw[an Gm];simp[mw]
    obtain⟨xk,xv,xg⟩:=x;simp only at HX;clear hx OE KV mw uF Rz HA HB Gm;go_wp2_with fail;refine bG (by kernel_rfl) (by kernel_rfl) ?_
    repeat (go_big_quiet_step (fail))
    refine wpQuiet_nil ?_;rintro _ ⟨uq,rfl⟩;obtain⟨cC,h2⟩:=bc kB HI uq;generalize uq.wld=w2 at cC h2;have nK:=aq cC;have H2:=aq h2;clear cC h2;have x0:=(an HX w2 (an nK)).1;have h5:=H0.xD (an H2) (.cells #[.string xk,.string ⟨#[]⟩,.bool true] 86);obtain⟨v6,w6,lX,h6⟩:=H0.DT h5 (c:=S.jM ⟨xk,xv,xg⟩) (heap_alloc_new w2 _) (by omega) 38;have zJ:=aq lX;have H6:=aq h6;clear h5 lX h6;clear HX HI H2 nK kB
    go_wp2_with (at_builtin;refine bN rfl _ _ 38 38 rfl _ _ rfl rfl (an zJ) ?_)
    all_goals
     go_roundg (ma+0)
     case measure=>omega
     case rel=>exact⟨i+1,j,ma-1,0,_,_,_,_,by omega,by omega,by omega,rfl,rfl,by omega,by omega,by omega,by omega,fun hh=>(by first|(exfalso;omega)|exact congrArg (fun o=>some (⟨g1,o,none⟩:Addr)) (by omega:_=(i+1)*3)),(by first|exact fun _=>rfl|exact fun h=>absurd h (by omega)|exact Ry),R++[S.jM ⟨xk,xv,xg⟩],v6,rfl,by first|omega|(simp;omega),PG,H6⟩
  ·have aek:ma=0:=by omega
   subst aek;have OE:A.drop i=[]:=drop_eq_nil_of_le (by rw[an Hn1];omega)
   by_cases oN:0<mb
   ·obtain rfl:=Ry oN;obtain⟨y,hy⟩:∃y,B[j]? = some y:=⟨B[j]'(by rw[an Hn2];omega),getElem?_eq_getElem _⟩;have KV:=Bw hy;have HY:Hid (∀wx,Below w.heap.size w wx->wx.cell? ⟨g2,j*3,none⟩=some (.string y.az)/\wx.cell? ⟨g2,j*3+1,none⟩=some (.string y.val)/\wx.cell? ⟨g2,j*3+2,none⟩=some (.bool y.gone)):=an HB j y hy;have zb0:(0:Int)<(mb:Int):=by omega
    have zb1:(1:Int)<=(mb:Int):=by omega
    have zb2:((mb:Int)==0)=false:=by simp;omega
    have mw:S.dA (A.drop i) (B.drop j)=y::S.dA (A.drop i) (B.drop (j+1)):=by rw[OE,KV,FM,FM]
    have PG:Hid (Z=(R++[y])++S.dA (A.drop i) (B.drop (j+1))):=by show _=_;rw[an Gm];simp[mw]
    obtain⟨yk,yv,yg⟩:=y;simp only at HY;clear hy OE KV mw uF Ry HA HB Gm;go_wp2_with fail;refine bG (by kernel_rfl) (by kernel_rfl) ?_
    repeat (go_big_quiet_step (fail))
    refine wpQuiet_nil ?_;rintro _ ⟨uq,rfl⟩;obtain⟨cC,h2⟩:=bc kB HI uq;generalize uq.wld=w2 at cC h2;have nK:=aq cC;have H2:=aq h2;clear cC h2;go_wp2_with fail;refine bG (by kernel_rfl) (by kernel_rfl) ?_
    repeat (go_big_quiet_step (fail))
    refine wpQuiet_nil ?_;rintro _ ⟨uq,rfl⟩;obtain⟨hQ,h3⟩:=bc nK H2 uq;generalize uq.wld=w3 at hQ h3;have q9:=aq hQ;have H3:=aq h3;clear hQ h3;have y0:=(an HY w3 (an q9)).1;have y1:=(an HY w3 (an q9)).2.1;have y2:=(an HY w3 (an q9)).2.2;have h5:=H0.xD (an H3) (.cells #[.string yk,.string yv,.bool yg] 86);obtain⟨v6,w6,lX,h6⟩:=H0.DT h5 (c:=⟨yk,yv,yg⟩) (heap_alloc_new w3 _) (by omega) 38;have zJ:=aq lX;have H6:=aq h6;clear h5 lX h6;clear HY HI H2 H3 nK q9 kB
    go_wp2_with (at_builtin;refine bN rfl _ _ 38 38 rfl _ _ rfl rfl (an zJ) ?_)
    all_goals
     go_roundg (0+mb)
     case measure=>omega
     case rel=>exact⟨i,j+1,0,mb-1,_,_,_,_,by omega,by omega,by omega,rfl,rfl,by omega,by omega,by omega,by omega,(by first|exact fun _=>rfl|exact fun h=>absurd h (by omega)|exact Rz),fun hh=>(by first|(exfalso;omega)|exact congrArg (fun o=>some (⟨g2,o,none⟩:Addr)) (by omega:_=(j+1)*3)),R++[⟨yk,yv,yg⟩],v6,rfl,by first|omega|(simp;omega),PG,H6⟩
   ·have My:mb=0:=by omega
    subst My;have KV:B.drop j=[]:=drop_eq_nil_of_le (by rw[an Hn2];omega);have hZ:Z=R:=by rw[an Gm,OE,KV,FM,append_nil]
    clear Gm OE KV uF Rz Ry HA HB;go_wp2_with fail;go_ret;exact⟨_,rfl,by rw[hZ];exact an HI⟩
end Go.Proofs.YtphcnmlbieokoaaGreatDoor.T
