import Derived.Test.YtphcnmlbieokoaaGreatDoorC10
import Derived.ChangeSlices
import Derived.ChangeArms
import Derived.Deep.Slices
import Derived.OpenShut
import Derived.ProofKit
import Derived.Shelf.Small.Wraps
import Derived.Shelf.Strings.Prefix
import Derived.RangeFuncNested
import Derived.RangeFuncBound
import Derived.RangeFuncCalls
import Derived.RangeFuncLeaves
import Derived.Shelf.Abstract
import Derived.Shelf.RegionOpen
import Derived.OwnWalkIn
import Derived.TacticsInMore
import Derived.LoopNIn
import Derived.LoopIn
import Derived.Deep.Onto
set_option maxRecDepth 100000
set_option maxHeartbeats 16000000
set_option linter.unusedVariables false
set_option linter.unusedSimpArgs false
namespace Go.Proofs.YtphcnmlbieokoaaGreatDoor.S
open Go.ChangeShapes Go.WideShapes Go.RowKit Go.Deep List Go.Proofs.Tryz
section
theorem MX:prog.cellsOf 86=3:=by kernel_rfl
theorem FO:prog.cellsOf 40=6:=by kernel_rfl
theorem Lw:prog.cellsOf 9=1:=by kernel_rfl
theorem SV:prog.cellsOf 3=1:=by kernel_rfl
theorem M0:prog.cellsOf 37=1:=by kernel_rfl
theorem MZ:prog.cellsOf 38=1:=by kernel_rfl
theorem Yw:prog.cellsOf 4=1:=by kernel_rfl
section
variable {H:Type} {enc:TypeId×Value->H} {W:World} {au:Nat} {held:Bool}
theorem Ls {α:Type} [Inhabited α] {n:Nat} {P:Nat->α->Prop} (h:∀j,j<n->∃x,P j x):∃f:Nat->α,∀j,j<n->P j (f j):=by
 classical
 exact⟨fun j=>if hj:j<n then Classical.choose (h j hj)else default,fun j hj=>by simp only[hj,dif_pos];exact Classical.choose_spec (h j hj)⟩
instance:Inhabited bn:=⟨⟨⟨#[]⟩,⟨#[]⟩,false⟩⟩
theorem MV {fuel:Nat} {v:Value} {x:DataW H×List MemPlace} (h:DataW.trod enc prog W au (fun _=>true) held fuel 38 [v]=some x):∃n f,iP W v n f:=by
 rcases open_slice underlying38 h with⟨h0,_⟩|⟨a,len,aU,m,n,D,Pl,gZ,hb,hl,hm,qZ,_,hx⟩
 ·simp only[List.cons.injEq,and_true]at h0;exact⟨0,default,.inl ⟨⟨none,0,h0⟩,rfl⟩⟩
 ·simp only[List.cons.injEq,and_true]at gZ;simp only[if_true]at qZ
  rcases Nat.eq_zero_or_pos aU with h0|h0
  ·obtain rfl:len=0:=by omega
   exact⟨0,default,.inl ⟨⟨_,_,gZ⟩,rfl⟩⟩
  ·obtain⟨b,o,spot⟩:=a
   have Ov:spot=none/\b<W.heap.size:=by obtain⟨cs',h1,_⟩:=hx 0 (by omega);rw[MX]at h1;obtain⟨_,hlen,fk⟩:=World.cells?_some h1;have:=fk 0 (by omega);rw[getElem?_eq_getElem (by omega)]at this;exact⟨by simpa[Addr.add]using World.cell?_spot this,by have h3:=World.block_lt_of_cell? _ _ this;simpa[Addr.add]using h3⟩
   obtain⟨Ov,eO⟩:=Ov;subst Ov
   have each:∀j,j<len->∃c:bn,W.cell? ⟨b,o+j*3,none⟩=some (.string c.az)/\W.cell? ⟨b,o+j*3+1,none⟩=some (.string c.val)/\W.cell? ⟨b,o+j*3+2,none⟩=some (.bool c.gone):=fun j hj=>by
    obtain⟨cs',h1,h2⟩:=hx j (by omega);rw[MX]at h1;obtain⟨_,hlen,fk⟩:=World.cells?_some h1;obtain⟨xs,k,hk,_,_,jL,hf⟩:=DataW.trod_struct underlying86 h2
    match xs,jL,cs',hlen with
    |[y0,y1,y2],_,[u0,u1,u2],_=>have g0:=hf 0 _ rfl;have g1:=hf 1 _ rfl;have g2:=hf 2 _ rfl;simp[Lw,Yw]at g0 g1 g2;obtain⟨s0,e0,_⟩:=DataW.trod_string underlying9 g0;obtain⟨s1,e1,_⟩:=DataW.trod_string underlying9 g1;obtain⟨s2,e2,_⟩:=DataW.trod_bool underlying4 g2;simp at e0 e1 e2;subst e0 e1 e2;have c0:=fk 0 (by omega);have c1:=fk 1 (by omega);have c2:=fk 2 (by omega);rw[add_add]at c0 c1 c2;rw[Addr.add_lit]at c0 c1 c2;exact⟨⟨s0,s1,s2⟩,by simpa using c0,by simpa[Nat.add_assoc]using c1,by simpa[Nat.add_assoc]using c2⟩
   obtain⟨f,hf⟩:=Ls each;exact⟨len,f,.inr ⟨b,o,aU,gZ,by unfold maxLen at hm;omega,eO,hf⟩⟩
instance:Inhabited gC:=⟨⟨⟨#[]⟩,⟨#[]⟩,⟨#[]⟩,0,0,.slice none 0 0,0,default⟩⟩
theorem Zv {v:Value} {d:DataW H} {ps:List MemPlace} (KI:∃a len aU,v=.slice a len aU) (h:DataW.Trod enc prog W au (fun _=>true) held 22 v d ps):∃n f,jz W v n f:=by
 obtain⟨fuel,h⟩:=h;obtain⟨a0,l0,c0,rfl⟩:=KI
 rcases open_slice underlying22 h with⟨h0,_⟩|⟨a,len,aU,m,n,D,Pl,gZ,hb,hl,hm,qZ,_,hx⟩
 ·simp only[Value.cells,List.cons.injEq,and_true]at h0;exact⟨0,default,.inl ⟨⟨none,0,h0⟩,rfl⟩⟩
 ·simp only[Value.cells,List.cons.injEq,and_true]at gZ;simp only[if_true]at qZ
  rcases Nat.eq_zero_or_pos aU with h0|h0
  ·obtain rfl:len=0:=by omega
   exact⟨0,default,.inl ⟨⟨_,_,gZ⟩,rfl⟩⟩
  ·obtain⟨b,o,spot⟩:=a
   have Ov:spot=none/\b<W.heap.size:=by obtain⟨cs',h1,_⟩:=hx 0 (by omega);rw[FO]at h1;obtain⟨_,hlen,fk⟩:=World.cells?_some h1;have:=fk 0 (by omega);rw[getElem?_eq_getElem (by omega)]at this;exact⟨by simpa[Addr.add]using World.cell?_spot this,by have h2:=World.block_lt_of_cell? _ _ this;simpa[Addr.add]using h2⟩
   obtain⟨rfl,eO⟩:=Ov
   have each:∀j,j<len->∃q:gC,W.cell? ⟨b,o+j*6,none⟩=some (.string q.aA)/\W.cell? ⟨b,o+j*6+1,none⟩=some (.string q.s)/\W.cell? ⟨b,o+j*6+2,none⟩=some (.string q.t)/\W.cell? ⟨b,o+j*6+3,none⟩=some (.int .i64 q.n)/\W.cell? ⟨b,o+j*6+4,none⟩=some (.int .u64 (q.k:Int))/\W.cell? ⟨b,o+j*6+5,none⟩=some q.ch/\iP W q.ch q.cn q.cf/\(-9223372036854775808<=q.n/\q.n<=9223372036854775807)/\q.k<18446744073709551616:=by
    intro j hj;obtain⟨cs',h1,h2⟩:=hx j (by omega);rw[FO]at h1;obtain⟨_,hlen,fk⟩:=World.cells?_some h1;obtain⟨xs,k,hk,_,_,jL,hf⟩:=DataW.trod_struct underlying40 h2
    match xs,jL,cs',hlen with
    |[y0,y1,y2,y3,y4,y5],_,[u0,u1,u2,u3,u4,u5],_=>
     have g0:=hf 0 _ rfl;have g1:=hf 1 _ rfl;have g2:=hf 2 _ rfl;have g3:=hf 3 _ rfl;have g4:=hf 4 _ rfl;have g5:=hf 5 _ rfl;simp[Lw,SV,M0,MZ]at g0 g1 g2 g3 g4 g5;obtain⟨s0,e0,_⟩:=DataW.trod_string underlying9 g0;obtain⟨s1,e1,_⟩:=DataW.trod_string underlying9 g1;obtain⟨s2,e2,_⟩:=DataW.trod_string underlying9 g2;obtain⟨s3,e3,_,wf3⟩:=DataW.trod_int underlying3 g3;obtain⟨s4,e4,_,wf4⟩:=DataW.trod_int underlying37 g4;simp at e0 e1 e2 e3 e4;subst e0 e1 e2 e3 e4;have c0:=fk 0 (by omega);have c1:=fk 1 (by omega)
     have c2:=fk 2 (by omega);have c3:=fk 3 (by omega);have c4:=fk 4 (by omega);have c5:=fk 5 (by omega);rw[add_add,Addr.add_lit]at c0 c1 c2 c3 c4 c5;obtain⟨cn,cf,mw⟩:=MV g5;have b3:=bounds_i64 wf3;have b4:=bounds_u64 wf4;exact⟨⟨s0,s1,s2,s3,s4.toNat,u5,cn,cf⟩,by simpa using c0,by simpa[Nat.add_assoc]using c1,by simpa[Nat.add_assoc]using c2,by simpa[Nat.add_assoc]using c3,by rw[show((s4.toNat:Nat):Int)=s4 from Int.toNat_of_nonneg b4.1];simpa[Nat.add_assoc]using c4,by simpa[Nat.add_assoc]using c5,mw,by omega,by simp only;omega⟩
   obtain⟨f,hf⟩:=choose_lt each;exact⟨len,f,.inr ⟨b,o,aU,gZ,by unfold maxLen at hm;omega,eO,hf⟩⟩
end
end
open Go.Lib
def F7 (w:World) (v:Value) (L:List bn):Prop:=iP w v L.length (fun i=>L.getD i CJ)
theorem ko (L:List bn):bO L.length (fun i=>L.getD i CJ)=L:=by
 apply ext_getElem
 ·rw[cX]
 ·intro i h1 h2;simp[bO,List.getD,getElem?_eq_getElem h2]
def DsP (w:World) (v:Value) (P:List (Value×List bn)):Prop:=
 (P=[]/\∃p c,v=.slice p 0 c)∨∃b off c,v=.slice (some ⟨b,off,none⟩) P.length c/\P.length<=9223372036854775807/\b<w.heap.size/\∀j p,P[j]? = some p->w.cell? ⟨b,off+j,none⟩=some p.1/\F7 w p.1 p.2
theorem ke {w0 w:World} {rs:List aI} (H:aw w0 w rs) {v:Value} {L:List bn} (hm:aO v L∈rs):F7 w v L:=by
 have hr:=H.rowAt hm
 cases hL:L with
 |nil=>subst hL;obtain⟨p,c,hv,_⟩:=cI hr;exact .inl ⟨⟨p,c,hv⟩,rfl⟩
 |cons c0 L'=>
  rw[<-hL];have rX:0<L.length:=by rw[hL];simp
  obtain⟨g,aU,hv,uC,lJ⟩:=aZ hr rX;have y9:aI.row (.slice (some ⟨g,0,none⟩) L.length aU) 86 3 L.length (flat L)∈rs:=by rw[<-hv];exact hm
  refine .inr ⟨g,0,aU,hv,by omega,(World.ownsRow.lt hr g (by rw[hv];rfl)).2,fun j hj=>?_⟩;have nO:=flat_get L j hj;have hx:L.getD j CJ=L[j]:=by simp[List.getD,getElem?_eq_getElem hj]
  simp only[Nat.zero_add];rw[hx];exact⟨H.jb y9 nO.1,H.jb y9 nO.2.1,H.jb y9 nO.2.2⟩
theorem Lh {w0 w:World} {rs:List aI} (H:aw w0 w rs) {v:Value} {P:List (Value×List bn)} (hm:aI.row v 38 1 P.length (P.map (·.1))∈rs) (hP:∀p∈P,F7 w p.1 p.2):DsP w v P:=by
 have hr:=H.rowAt hm
 cases hL:P with
 |nil=>subst hL;obtain⟨p,c,hv,_⟩:=cI hr;exact .inl ⟨rfl,p,c,hv⟩
 |cons c0 L'=>
  rw[<-hL];have rX:0<P.length:=by rw[hL];simp
  obtain⟨g,aU,hv,uC,lJ⟩:=aZ hr rX;have y9:aI.row (.slice (some ⟨g,0,none⟩) P.length aU) 38 1 P.length (P.map (·.1))∈rs:=by rw[<-hv];exact hm
  refine .inr ⟨g,0,aU,hv,by omega,(World.ownsRow.lt hr g (by rw[hv];rfl)).2,fun j p hj=>⟨?_,hP p (mem_of_getElem? hj)⟩⟩;rw[Nat.zero_add];exact H.jb y9 (by rw[getElem?_map,hj];rfl)
theorem Fz {w0 w:World} {v:Value} {P:List (Value×List bn)} {rs:List aI} (H:aw w0 w rs) (hm:∀x∈eJ v P,x∈rs):DsP w v P:=
 Lh H (hm _ ae) fun p hp=>ke H (hm _ (.tail _ (mem_map.2 ⟨p,hp,rfl⟩)))
def VQ (q:Prop) (w:World) (e:Ending) (w':World):Prop:=(∃r:Bool,e=.returned (.bool r)/\(q->r=true))/\∃k,w'=w.drewN k
theorem GK (va vb:Value) (A B:List bn) (w:World) (ha:F7 w va A) (hb:F7 w vb B):
 Calls prog 25 #[va,vb] w fun e w'=>VQ (A=B) w e w':=by
 obtain⟨pa,ca,hva⟩:=iP.slice ha;obtain⟨pb,cb,XL⟩:=iP.slice hb
 have JY:A.length<=9223372036854775807:=by rcases ha with⟨_,h⟩|⟨_,_,_,_,h,_⟩<;>omega
 have Gd:B.length<=9223372036854775807:=by rcases hb with⟨_,h⟩|⟨_,_,_,_,h,_⟩<;>omega
 have hg:∀(L:List bn) j,j<L.length->(L[j]? = some (L.getD j CJ)):=fun L j hj=>by simp[List.getD,getElem?_eq_getElem hj]
 subst hva XL;have HA:=aq ha;have HB:=aq hb
 by_cases dr:A.length=B.length
 ·obtain⟨n,hn⟩:=aa A.length;have hnB:B.length=n:=by omega
  unfold F7 at HA HB;rw[hn]at HA JY ⊢;rw[hnB]at HB ⊢;have Hn:=aq hn;have HnB:=aq hnB;have ace:=aq hg;clear ha hb hn hnB Gd dr hg;go_enter func25,ntmps25;go_wp2_with fail
  go_loopg [5] (n+1) (fun g vi wr=>∃(i:Nat),n-i<g/\i<=n/\vi=.int .i64 i/\∃k,wr=w.drewN k)
  case atStart=>exact⟨0,by omega,by omega,rfl,0,rfl⟩
  case round=>
   obtain⟨i,hg,hi,rfl,k,rfl⟩:=hrel
   by_cases gY:i<n
   ·have mI:(i:Int)<(n:Int):=by omega
    rcases an HA with⟨_,h0⟩|⟨ba,oa,c1,mv,_,hba,oQ⟩
    ·omega
    rcases an HB with⟨_,h0⟩|⟨bb,ob,c2,wE,_,qD,pW⟩
    ·omega
    injection mv with e1 e2 e3;subst e1 e3;clear e2;injection wE with e1 e2 e3;subst e1 e3;clear e2;obtain⟨a0,a1,a2⟩:=oQ i gY;obtain⟨b0,b1,b2⟩:=pW i gY;simp only at a0 a1 a2 b0 b1 b2;have gx:=an ace A i (by rw[an Hn];exact gY);have gy:=an ace B i (by rw[an HnB];exact gY);have qO:A=B->A.getD i CJ=B.getD i CJ:=fun e=>by rw[e]
    obtain⟨⟨xk,xv,xg⟩,hx⟩:∃x,A.getD i CJ=x:=⟨_,rfl⟩;obtain⟨⟨yk,yv,yg⟩,hy⟩:∃y,B.getD i CJ=y:=⟨_,rfl⟩;rw[hx]at a0 a1 a2 qO;rw[hy]at b0 b1 b2 qO;simp only at a0 a1 a2 b0 b1 b2;have M5:=aq qO;obtain⟨bk,hbk⟩:∃b,(xk.toList==yk.toList)=b:=⟨_,rfl⟩;obtain⟨bv,zP⟩:∃b,(xv.toList==yv.toList)=b:=⟨_,rfl⟩;have Hk:Hid (bk=false->¬xk=yk):=fun h=>by rw[h]at hbk;rw[beq_eq_false_iff_ne,Ne,fv]at hbk;exact hbk
    have Hv:Hid (bv=false->¬xv=yv):=fun h=>by rw[h]at zP;rw[beq_eq_false_iff_ne,Ne,fv]at zP;exact zP
    clear oQ pW gx gy qO hx hy hba qD
    cases bk with
    |false=>
     have nR:A≠B:=fun e=>by have:=an M5 e;injection this with h1 h2 h3;exact an Hk rfl h1
     have YN:=aq nR;clear nR Hk Hv;go_wp2_with fail
     go_quiet (fail)
     go_wp2_with fail
     go_ret;exact⟨⟨false,rfl,fun e=>absurd e (an YN)⟩,_,by first|rfl|exact World.drewN_drewN _ _ _⟩
    |true=>
     cases bv with
     |false=>
      have nR:A≠B:=fun e=>by have:=an M5 e;injection this with h1 h2 h3;exact an Hv rfl h2
      have YN:=aq nR;clear nR Hk Hv;go_wp2_with fail
      go_quiet (fail)
      go_wp2_with fail
      go_ret;exact⟨⟨false,rfl,fun e=>absurd e (an YN)⟩,_,by first|rfl|exact World.drewN_drewN _ _ _⟩
     |true=>
      by_cases sV:xg=yg
      ·subst sV;have vH:(xg==xg)=true:=by simp
       clear Hk Hv M5;go_wp2_with fail
       go_quiet (fail)
       go_wp2_with fail
       go_roundg (n-i)
       case measure=>omega
       case rel=>exact⟨i+1,by omega,by omega,by simp,_,rfl⟩
      ·have nR:A≠B:=fun e=>by have:=an M5 e;injection this with h1 h2 h3;exact sV h3
       have vH:(xg==yg)=false:=by simp[sV]
       have YN:=aq nR;clear nR Hk Hv;go_wp2_with fail
       go_quiet (fail)
       go_wp2_with fail
       go_ret;exact⟨⟨false,rfl,fun e=>absurd e (an YN)⟩,_,by first|rfl|exact World.drewN_drewN _ _ _⟩
   ·have mI:¬(i:Int)<(n:Int):=by omega
    go_wp2_with fail
    go_ret;exact⟨⟨true,rfl,fun _=>rfl⟩,k,rfl⟩
 ·have aeb:¬(A.length:Int)=(B.length:Int):=by omega
  have Hne:=aq dr;obtain⟨n,hn⟩:=aa A.length;obtain⟨m,hm⟩:=aa B.length;rw[hn,hm]at aeb;rw[hn]at JY ⊢;rw[hm]at Gd ⊢;clear ha hb HA HB hg dr hn hm;go_enter func25,ntmps25;go_wp2_with fail;go_ret;exact⟨⟨false,rfl,fun e=>absurd (congrArg List.length e) (an Hne)⟩,0,rfl⟩
def th (w0:World) (db:Nat) (d:DK) (l2:List aI) (fr aF first:Nat) (e:Ending) (w':World):Prop:=
 ∃lb v P,e=.returned (.tuple #[.pointer (some ⟨lb,0,none⟩),v,.nilIface])/\P.map (·.2)=(eY d fr aF first).deeds/\aE w0 w' db d (eJ v P++(eN lb db fr aF first (eY d fr aF first).av::l2))
theorem Ko {w0 w:World} {db:Nat} {d:DK} {l2:List aI} (h:aE w0 w db d l2) (ju:d.down=false) (fr aF first:Nat) (h1:1<=aF) (U5:1<=first) (hf:first<=1000000) (RO:fr+aF<=d.aW.length):
 Calls prog 107 #[.pointer (some ⟨db,0,none⟩),.int .i64 fr,.int .i64 aF,.int .i64 first] w fun e w'=>th w0 db d l2 fr aF first e w':=by
 have es:=jJ w0 w db d l2 h;have tn:=h.ok.ix;obtain⟨lb,PW⟩:=aa w.heap.size;have hm:aE w0 (w.alloc (.cells #[.pointer (some ⟨db,0,none⟩),.int .i64 fr,.int .i64 aF,.int .i64 first,.int .i64 0] 227)) db d (eN lb db fr aF first 0::l2):=by rw[<-PW];exact h.aY 227 [.pointer (some ⟨db,0,none⟩),.int .i64 fr,.int .i64 aF,.int .i64 first,.int .i64 0]
 have er:=Aq hm ju RO h1 hf;unfold BT at er;unfold th;obtain⟨RP,hRP⟩:=aa (eY d fr aF first)
 rw[hRP]at er ⊢;have a1:¬(fr:Int)<0:=by omega
 have a2:¬(aF:Int)<1:=by omega
 have a3:¬(first:Int)<1:=by omega
 have a4:¬(d.aW.length:Int)-(fr:Int)<(aF:Int):=by omega
 obtain⟨n,hn⟩:=aa d.aW.length;rw[hn]at es a4 tn;have ES:=aq es;have ER:=aq er;clear es er h hn hm hRP RO ju;go_enter func107,ntmps107
 go_wp2_with (go_at_call 100;refine(an ES).mono ?_;rintro e w1 ⟨rfl,rfl⟩)
 refine(an ER).mono ?_;rintro e w2 ⟨v,P,rfl,hP,hD⟩;have HP:=aq hP;have HD:=aq hD;clear hP hD ER;obtain⟨pv,cv,hv,_⟩:=cI ((an HD).hold.rowAt ae);subst hv;go_wp2_with fail;go_ret3;exact⟨lb,_,P,rfl,an HP,an HD⟩
def qg:List (List UInt8)->Nat->List (List UInt8)->List (List UInt8)
 |aW,_,[]=>aW
 |aW,a,s::r=>qg (aW.set a (eF s)) (a+1) r
theorem eS:∀(l aW:List (List UInt8)) (a:Nat),(qg aW a l).length=aW.length
 |[],aW,a=>rfl
 |s::r,aW,a=>by rw[qg,eS r];simp
theorem iE:∀(l aW:List (List UInt8)) (a x:Nat),(x<a∨a+l.length<=x)->(qg aW a l).getD x []=aW.getD x []
 |[],aW,a,x,h=>rfl
 |s::r,aW,a,x,h=>by rw[length_cons]at h;rw[qg,iE r _ (a+1) x (by omega),List.getD,List.getD,getElem?_set_ne (by omega)]
theorem qf:∀(l aW:List (List UInt8)) (a j:Nat) (s:List UInt8),a+l.length<=aW.length->l[j]? = some s->(qg aW a l).getD (a+j) []=eF s
 |[],aW,a,j,s,h,hj=>by simp at hj
 |s0::r,aW,a,j,s,h,hj=>by
  rw[length_cons]at h;rw[qg]
  cases j with
  |zero=>simp only[getElem?_cons_zero,Option.some.injEq]at hj;subst hj;show(qg (aW.set a (eF s0)) (a+1) r).getD a []=eF s0;rw[iE r _ (a+1) a (by omega),List.getD,getElem?_set_self (by omega)];rfl
  |succ j=>rw[getElem?_cons_succ]at hj;rw[show a+(j+1)=a+1+j by omega];exact qf r _ (a+1) j s (by rw[length_set];omega) hj
def LZ (a:Nat) (l:List (List UInt8)):List (Nat×List UInt8):=l.mapIdx fun i s=>(a+i,eF s)
theorem uR (a:Nat) (s:List UInt8) (l:List (List UInt8)):LZ a (s::l)=(a,eF s)::LZ (a+1) l:=by
 unfold LZ;rw[mapIdx_cons]
 congr 1
 congr 1
 funext i s
 rw[show a+(i+1)=a+1+i by omega]
theorem Xl {a:Nat} {l:List (List UInt8)} {y:Nat×List UInt8} (h:y∈LZ a l):a<=y.1:=by
 obtain⟨i,hi,rfl⟩:=List.mem_mapIdx.1 h;exact Nat.le_add_right _ _
theorem sR (k:Nat):∀(r:List (Nat×List UInt8)) (i:Nat) (K:List (List UInt8)) (x:Nat),(∀y∈r,y.1≠x)->(dC k i r K).getD x []=K.getD x []
 |[],i,K,x,h=>rfl
 |y::r,i,K,x,h=>by
  rw[dC,sR k r _ _ x fun z hz=>h z (by simp[hz])]
  split
  ·rw[List.getD,List.getD,getElem?_set_ne (h y (by simp))]
  ·rfl
theorem wY (k:Nat) (x:Nat) (s:List UInt8) (K:List (List UInt8)):dC k 0 [(x,s)] K=K.set x s∨dC k 0 [(x,s)] K=K:=by
 rw[dC,dC]
 split
 ·exact .inl rfl
 ·exact .inr rfl
theorem xC {d:DK} (hl:d.left<0) (hd:d.down=false):d.oT=false:=by unfold DK.oT;rw[hd];simp;omega
theorem xB {d:DK} (hl:d.left<0) (hd:d.down=false):d.bD=d:=by unfold DK.bD;rw[xC hl hd];simp;omega
theorem DH {d:DK} (h:d.oT=true):d.bD.down=true:=by unfold DK.bD;rw[h];rfl
theorem CT {d:DK} (h:d.oT=false):d.bD.down=d.down:=by unfold DK.bD;rw[h];simp only[Bool.false_eq_true,if_false];split<;>rfl
structure Laid (l:List (List UInt8)) (d:DK) (a:Nat) (d':DK):Prop where
 aW:d'.aW=qg d.aW a l
 kept:d'.kept=qg d.aW a l
 wr:d'.wr=[]
 down:d'.down=false
 left:d.left<0->d'.left=d.left
structure afT (l:List (List UInt8)) (d:DK) (a:Nat) (d':DK):Prop where
 down:d'.down=true
 len:d'.aW.length=d.aW.length
 kept:d'.kept=d.kept
 wr:∃k,d'.wr=d.wr++LZ a (l.take k)
 left:¬d.left<0
theorem mc:∀(l:List (List UInt8)) (d:DK) (a:Nat),d.down=false->a+l.length<=d.aW.length->(∀s∈l,s.length<=140)->((dy l d a).1=none/\Laid l d a (dy l d a).2)∨((dy l d a).1=some 10/\afT l d a (dy l d a).2)
 |[],d,a,hd,ha,hs=>by
  rw[dy];unfold DK.fu DK.fP
  cases hf:d.oT with
  |true=>refine .inr ⟨rfl,DH hf,by show d.bD.aW.length=_;rw[gi],by show d.bD.kept=_;rw[mD],⟨0,by show d.bD.wr=_;rw[jn];simp[LZ]⟩,fun hl=>by rw[xC hl hd]at hf;cases hf⟩
  |false=>
   refine .inl ⟨rfl,?_,?_,rfl,?_,fun hl=>?_⟩
   ·simp only[Bool.false_eq_true,if_false,DK.xr,qg,gi]
   ·simp only[Bool.false_eq_true,if_false,DK.xr,qg,gi]
   ·simp only[Bool.false_eq_true,if_false,DK.xr];rw[CT hf,hd]
   ·simp only[Bool.false_eq_true,if_false,DK.xr];rw[xB hl hd]
 |s::r,d,a,hd,ha,hs=>by
  rw[length_cons]at ha;have uz:=hs s (by simp)
  have aeM:(!d.has (a:Int)||decide (140<s.length))=false:=by simp[DK.has];omega
  obtain⟨h1,h2⟩:=xM d a s aeM;rw[dy];unfold DK.fu at h1
  cases hf:d.oT with
  |true=>rw[hf]at h1 h2;simp only[if_true]at h1 h2;rw[h1,h2];exact .inr ⟨rfl,DH hf,by rw[gi],by rw[mD],⟨0,by rw[jn];simp[LZ]⟩,fun hl=>by rw[xC hl hd]at hf;cases hf⟩
  |false=>
   rw[hf]at h1 h2;simp only[Bool.false_eq_true,if_false,Int.toNat_natCast]at h1 h2;rw[h1,h2];simp only;have ju:(d.bD.laid a (eF s)).down=false:=by simp only[DK.laid];rw[CT hf,hd]
   have hlen:(d.bD.laid a (eF s)).aW.length=d.aW.length:=by simp only[DK.laid,length_set,gi]
   rcases mc r (d.bD.laid a (eF s)) (a+1) ju (by rw[hlen];omega) (fun x hx=>hs x (by simp[hx]))with⟨g1,g2⟩|⟨g1,g2⟩
   ·refine .inl ⟨g1,?_,?_,g2.wr,g2.down,fun hl=>?_⟩
    ·rw[g2.aW,qg];simp only[DK.laid,gi]
    ·rw[g2.kept,qg];simp only[DK.laid,gi]
    ·have tm:(d.bD.laid a (eF s)).left=d.left:=by simp only[DK.laid];rw[xB hl hd]
     rw[g2.left (by rw[tm];exact hl),tm]
   ·refine .inr ⟨g1,g2.down,by rw[g2.len,hlen],by rw[g2.kept];simp only[DK.laid,mD],?_,fun hl=>?_⟩
    ·obtain⟨k,hk⟩:=g2.wr;refine⟨k+1,?_⟩;rw[hk,take_succ_cons,uR];simp only[DK.laid,jn];simp
    ·exact g2.left (by simp only[DK.laid];rw[xB hl hd];exact hl)
structure mA (d:DK):Prop where
 wr:d.wr=[]
 kept:d.kept=d.aW
 down:d.down=false
theorem Laid.steady {l:List (List UInt8)} {d d':DK} {a:Nat} (h:Laid l d a d'):mA d':=⟨h.wr,by rw[h.kept,h.aW],h.down⟩
structure Tg (aW:List (List UInt8)) (fr av aF:Nat) (S:List (List UInt8)):Prop where
 len:S.length=aW.length
 pre:∀j,j<av->S.getD (fr+j) []=aW.getD (fr+j) []
 stop:av<aF->S.getD (fr+av) []=fg
structure Ti (aW:List (List UInt8)) (fr av aF:Nat) (L:List (List UInt8)) (S:List (List UInt8)):Prop where
 len:S.length=aW.length
 pre:∀j,j<av->S.getD (fr+j) []=aW.getD (fr+j) []
 q7:∀j s,L[j]? = some s->S.getD (fr+(av+j)) []=eF s
 stop:av+L.length<aF->S.getD (fr+(av+L.length)) []=fg
theorem wM (av aF:Nat) (r:List (List UInt8)) (h:av+(r.length+1)<=aF):av+1+(gM av aF r).length<=aF/\r.length<=(gM av aF r).length:=by
 unfold gM
 split
 ·rw[length_append,length_singleton];omega
 ·omega
theorem GS (av aF:Nat) (r:List (List UInt8)) (h:∀s∈r,s.length<=140):∀s∈gM av aF r,s.length<=140:=by
 unfold gM
 split
 ·intro s hs
  rcases mem_append.1 hs with hs|hs
  ·exact h s hs
  ·rw[mem_singleton.1 hs];simp
 ·exact h
theorem ND {av aF:Nat} {r:List (List UInt8)} {j:Nat} {s:List UInt8} (h:r[j]? = some s):(gM av aF r)[j]? = some s:=by
 unfold gM
 split
 ·rw[getElem?_append_left (List.getElem?_eq_some_iff.1 h).1];exact h
 ·exact h
theorem Kh {av aF:Nat} {r:List (List UInt8)} (h:av+(r.length+1)<aF):(gM av aF r)[r.length]? = some []:=by
 unfold gM;rw[if_pos h,getElem?_append_right (Nat.le_refl _),Nat.sub_self];rfl
theorem Xy {aW:List (List UInt8)} {fr av aF:Nat} {s0:List UInt8} {r:List (List UInt8)} (hlen:fr+aF<=aW.length) (hm:av+(r.length+1)<=aF):
 Ti aW fr av aF (s0::r) (qg (qg (qg aW (fr+av) [[]]) (fr+(av+1)) (gM av aF r)) (fr+av) [s0]):=by
 obtain⟨q1,q2⟩:=wM av aF r hm;refine⟨by simp only[eS],fun j hj=>?_,fun j s hj=>?_,fun hs=>?_⟩
 ·rw[iE _ _ _ _ (by simp;omega),iE _ _ _ _ (by omega),iE _ _ _ _ (by simp;omega)]
 ·cases j with
  |zero=>simp only[getElem?_cons_zero,Option.some.injEq]at hj;subst hj;exact qf [s0] _ _ 0 s0 (by simp only[eS,length_singleton];omega) rfl
  |succ j=>rw[getElem?_cons_succ]at hj;rw[iE _ _ _ _ (by simp;omega),show fr+(av+(j+1))=fr+(av+1)+j by omega];exact qf _ _ _ j s (by rw[eS];omega) (ND hj)
 ·rw[length_cons]at hs ⊢;rw[iE _ _ _ _ (by simp;omega),show fr+(av+(r.length+1))=fr+(av+1)+r.length by omega];rw[qf _ _ _ r.length [] (by rw[eS];omega) (Kh hs),vl]
theorem UB {aW:List (List UInt8)} {fr av aF:Nat} {r:List (List UInt8)} (hlen:fr+aF<=aW.length) (hm:av+(r.length+1)<=aF):
 Tg aW fr av aF (qg (qg aW (fr+av) [[]]) (fr+(av+1)) (gM av aF r)):=by
 obtain⟨q1,q2⟩:=wM av aF r hm;refine⟨by simp only[eS],fun j hj=>?_,fun hs=>?_⟩
 ·rw[iE _ _ _ _ (by omega),iE _ _ _ _ (by simp;omega)]
 ·rw[iE _ _ _ _ (by omega)];have:=qf [[]] aW (fr+av) 0 [] (by simp only[length_singleton];omega) rfl;rw[Nat.add_zero]at this;rw[this,vl]
structure xH (d:DK) (fr av aF:Nat) (s0:List UInt8) (r:List (List UInt8)):Prop where
 down:d.down=false
 len:fr+aF<=d.aW.length
 aF:av+(r.length+1)<=aF
 s0:s0.length<=140
 r:∀s∈r,s.length<=140
structure yL (d:DK) (fr aF first:Nat) (D:List (List bn)) (av:Nat):Prop where
 steady:mA d
 len:fr+aF<=d.aW.length
 pre:JD (gE d.aW fr) first av D
 le:av<=aF
 stop:av<aF->d.aW.getD (fr+av) []=fg
theorem yL.read {d:DK} {fr aF first av:Nat} {D:List (List bn)} (h:yL d fr aF first D av):eY d fr aF first=⟨D,[],av⟩:=
 h.pre.go h.le fun hu=>by unfold gE;rw[h.stop hu]
theorem QS {aW:List (List UInt8)} {d':DK} {fr aF first av:Nat} {D:List (List bn)} (hlen:fr+aF<=aW.length) (hp:JD (gE aW fr) first av D) {l:List bn} (hc:∀c∈l,aR c=none) (hm:av+(l.length+1)<=aF) (hf:first+aF<4294967296) (hs:mA d') (hn:Ti aW fr av aF (kx (first+av) l) d'.aW):yL d' fr aF first (D++[l]) (av+(l.length+1)):=by
 have hl:=kX (first+av) l;refine⟨hs,by rw[hn.len];exact hlen,?_,hm,?_⟩
 ·refine(hp.congr (get':=gE d'.aW fr) fun j hj=>by unfold gE;rw[hn.pre j hj]).q7 l hc (by omega) fun j s hj=>?_
  unfold gE;rw[hn.q7 j s hj]
 ·intro hu;have:=hn.stop (by rw[hl];exact hu);rw[hl]at this;exact this
theorem Lt (c:bn):aR c≠some 10:=by
 unfold aR
 split
 ·decide
 split
 ·decide
 ·decide
theorem Bq:∀l:List bn,dQ l≠some 10
 |[]=>by simp[dQ]
 |c::l=>by
  rw[dQ]
  cases hc:aR c with
  |some k=>simp only;rw[<-hc];exact Lt c
  |none=>exact Bq l
theorem xy (n:Nat) (l:List bn):∃s0 r,kx n l=s0::r/\r.length=l.length:=by
 cases hx:kx n l with
 |nil=>have:=kX n l;rw[hx]at this;simp at this
 |cons s0 r=>have:=kX n l;rw[hx,length_cons]at this;exact⟨s0,r,rfl,by omega⟩
theorem DsP.ch {w:World} {v:Value} {P:List (Value×List bn)} (h:DsP w v P):∀p∈P,F7 w p.1 p.2:=by
 intro p hp
 rcases h with⟨rfl,_⟩|⟨b,off,c,h1,h2,h3,h4⟩
 ·cases hp
 ·obtain⟨j,hj,rfl⟩:=List.mem_iff_getElem.1 hp;exact(h4 j _ (getElem?_eq_getElem hj)).2
theorem lG:∀(l:List (List UInt8)) (d:DK) (a:Nat),(dy l d a).2.wr.length<=d.wr.length+l.length
 |[],d,a=>by
  rw[dy]
  show d.fP.wr.length<=_;unfold DK.fP
  split
  ·rw[jn];simp
  ·simp[DK.xr]
 |s::r,d,a=>by
  rw[dy];have h1:=tV d a s
  cases hw:d.kH (a:Int) s with
  |some e=>simp only[length_cons];omega
  |none=>have h2:=lG r (d.written a s) (a+1);simp only[length_cons];omega
theorem Kj (d:DK) (fr av aF:Nat) (s0:List UInt8) (r:List (List UInt8)):(eT d fr av aF s0 r).2.wr.length<=d.wr.length+r.length+2:=by
 have h1:=lG [[]] d (fr+av);unfold eT
 cases hx:dy [[]] d (fr+av)with
 |mk e1 d1=>
  rw[hx]at h1
  cases e1 with
  |some k=>simp only[length_singleton]at h1 ⊢;omega
  |none=>
   simp only at h1 ⊢;have iD:d1.wr=[]:=by have:=vt [[]] d (fr+av);rw[hx]at this;exact this rfl
   have h2:=lG (gM av aF r) d1 (fr+(av+1));have XS:(gM av aF r).length<=r.length+1:=by unfold gM;split<;>simp
   cases hy:dy (gM av aF r) d1 (fr+(av+1))with
   |mk e2 d2=>
    rw[hy,iD]at h2
    cases e2 with
    |some k=>simp only[length_nil]at h2 ⊢;omega
    |none=>
     simp only at h2 ⊢;have PQ:d2.wr=[]:=by have:=vt (gM av aF r) d1 (fr+(av+1));rw[hy]at this;exact this rfl
     have h3:=lG [s0] d2 (fr+av);rw[PQ]at h3;simp only[length_singleton,length_nil]at h3;omega
theorem LF (d:DK) (fr aF first av:Nat) (l:List bn):(lO d fr aF first av l).2.1.wr.length<=d.wr.length+l.length+2:=by
 unfold lO
 split
 ·simp only;omega
 split
 ·simp only;omega
 split
 ·simp only;omega
 ·obtain⟨s0,r,hdd,XS⟩:=xy (first+av) l;have h:=Kj d fr av aF s0 r;rw[hdd];simp only[headD_cons,tail_cons]
  split
  ·rename_i he;rw[he]at h;simp only at h ⊢;omega
  ·rename_i he;rw[he]at h;simp only at h ⊢;omega
theorem GM {get:Nat->ByteArray} {first:Nat}:∀(k i:Nat) (st tZ:RS),mF get first k i st=some tZ->st.deeds.length<=i->tZ.deeds.length<=i+k
 | 0,i,st,tZ,h,hl=>by cases h;omega
 |k+1,i,st,tZ,h,hl=>by
  rw[mF]at h
  cases hs:gD (get i) (first+i) i st with
  |none=>rw[hs]at h;cases h
  |some s1=>
   rw[hs,Option.bind_some]at h
   have h1:s1.deeds.length<=i+1:=by
    rcases o8 hs with⟨_,h2⟩|h2
    ·rw[h2];omega
    ·rw[h2];simp;omega
   have:=GM k (i+1) s1 tZ h h1;omega
theorem JD.len {get:Nat->ByteArray} {first av:Nat} {D:List (List bn)} (h:JD get first av D):D.length<=av:=by
 have:=GM av 0 B5 _ h (by simp[B5])
 simpa using this
theorem xR (aH:Nat) (hh:aH<=1) (w:World):Calls prog 103 #[.int .i64 aH] w fun e w'=>e=.returned (.int .i64 ((1+aH*44:Nat):Int))/\w'=w:=by
 have he:((1+aH*44:Nat):Int)=1+(aH:Int)*44:=by omega
 rw[he];go_enter func103,ntmps103;go_wp2_with fail;go_ret;exact⟨rfl,rfl⟩
theorem oC {w0 w:World} {db:Nat} {d:DK} {l2:List aI} (h:aE w0 w db d l2) (ju:d.down=false) (first:Nat) (U5:1<=first) (hf:first<=1000000) (hl:90<d.aW.length):
 Calls prog 55 #[.pointer (some ⟨db,0,none⟩),.int .i64 first] w fun e w'=>th w0 db d l2 90 (d.aW.length-90) first e w':=by
 have es:=jJ w0 w db d l2 h;have tn:=h.ok.ix;have eo:=Ko h ju 90 (d.aW.length-90) first (by omega) U5 hf (by omega)
 have hc:((d.aW.length-90:Nat):Int)=(d.aW.length:Int)-90:=by omega
 rw[hc]at eo;unfold th at eo ⊢;obtain⟨RP,hRP⟩:=aa (eY d 90 (d.aW.length-90) first)
 rw[hRP]at eo ⊢;obtain⟨mm,qZ⟩:=aa (d.aW.length-90);rw[qZ]at eo ⊢;obtain⟨n,hn⟩:=aa d.aW.length;rw[hn]at es eo tn hl;have ES:=aq es;have EO:=aq eo;clear es eo h hn hRP ju hc qZ;go_enter func55,ntmps55;go_wp2_with fail;refine(an ES).mono ?_;rintro e w1 ⟨rfl,rfl⟩;clear ES;go_wp2_with fail;refine(an EO).mono ?_;rintro e w2 ⟨lb,v,P,rfl,hP,hD⟩;have HP:=aq hP;have HD:=aq hD;clear hP hD EO;obtain⟨pv,cv,hv,_⟩:=cI ((an HD).hold.rowAt ae);subst hv;go_wp2_with fail;go_ret3;exact⟨lb,_,P,rfl,an HP,an HD⟩
theorem Bh {get:Nat->ByteArray} {first:Nat}:∀(k i:Nat) (st:RS),(st.deeds=[]->st.av=0)->(r8 get first k i st).deeds=[]->(r8 get first k i st).av=0
 | 0,i,st,h,hd=>h hd
 |k+1,i,st,h,hd=>by
  rw[r8]at hd ⊢
  cases hs:gD (get i) (first+i) i st with
  |none=>rw[hs]at hd;exact h hd
  |some s1=>
   rw[hs]at hd;simp only at hd ⊢;refine Bh k (i+1) s1 (fun h1=>?_) hd
   rcases o8 hs with⟨h2,h3⟩|h2
   ·rw[h2];rw[h3]at h1;exact h h1
   ·rw[h2]at h1;simp at h1
theorem OO {get:Nat->ByteArray} {first aF:Nat} (h:(r8 get first aF 0 B5).deeds≠[]):r8 get (first+1) aF 0 B5=B5:=by
 cases aF with
 |zero=>exact absurd rfl h
 |succ k=>
  rw[r8]at h ⊢
  have h0:gD (get 0) (first+1+0) 0 B5=none:=by
   cases hs:gD (get 0) (first+0) 0 B5 with
   |none=>rw[hs]at h;exact absurd rfl h
   |some s1=>
    have hg:tU (get 0) (first+0):=by
     by_cases hG:tU (get 0) (first+0)
     ·exact hG
     ·exfalso;have hp:fo (get 0) (first+0)=(pn,pn):=by unfold fo;rw[if_neg hG]
      unfold gD at hs;rw[hp,if_neg (show ¬(pn,pn).1=nk by decide),if_neg (show ¬(pn,pn).1=pz by decide)]at hs
      cases hs
    have kF:¬tU (get 0) (first+1+0):=fun g=>by have:=hg.2.1;have:=g.2.1;omega
    have hp:fo (get 0) (first+1+0)=(pn,pn):=by unfold fo;rw[if_neg kF]
    unfold gD;rw[hp,if_neg (show ¬(pn,pn).1=nk by decide),if_neg (show ¬(pn,pn).1=pz by decide)]
  rw[h0]
def cd (d:DK) (first:Nat):Nat:=if (eY d 90 (d.aW.length-90) first).deeds=[]then first else first+1
theorem kt (d:DK) (first:Nat):(eY d 90 (d.aW.length-90) (cd d first)).deeds=[]/\(eY d 90 (d.aW.length-90) (cd d first)).av=0/\first<=cd d first/\cd d first<=first+1:=by
 unfold cd
 split
 ·rename_i h
  exact⟨h,Bh _ _ _ (fun _=>rfl) h,by omega,by omega⟩
 ·rename_i h
  have:=OO (get:=gE d.aW 90) (first:=first) (aF:=d.aW.length-90) h;unfold eY;rw[this];exact⟨rfl,rfl,by omega,by omega⟩
def B0 (w0:World) (db:Nat) (d:DK) (l2:List aI) (first:Nat) (e:Ending) (w':World):Prop:=
 ∃lb,e=.returned (.tuple #[.pointer (some ⟨lb,0,none⟩),.int .i64 (cd d first:Int),.nilIface])/\aE w0 w' db d (eN lb db 90 (d.aW.length-90) (cd d first) 0::l2)
theorem Bv {w0 w:World} {db:Nat} {d:DK} {l2:List aI} (h:aE w0 w db d l2) (ju:d.down=false) (first:Nat) (U5:1<=first) (hf:first<=900000) (hl:90<d.aW.length):
 Calls prog 152 #[.pointer (some ⟨db,0,none⟩),.int .i64 first] w fun e w'=>B0 w0 db d l2 first e w':=by
 have e1:=oC h ju first U5 (by omega) hl
 have e2:=fun(wx:World) (l3:List aI) (hx:aE w0 wx db d l3)=>oC hx ju (first+1) (by omega) (by omega) hl
 obtain⟨q1,q2,q3,q4⟩:=kt d first
 unfold th at e1 e2;have E1:=aq e1;have E2:=aq e2;have Q1:=aq q1;have Q2:=aq q2;unfold B0;have U7:cd d first=if (eY d 90 (d.aW.length-90) first).deeds=[]then first else first+1:=rfl
 have Hef:=aq U7;clear e1 e2 h ju q1 q2 U7;go_enter func152,ntmps152;go_wp2_with fail;refine(an E1).mono ?_;rintro e w1 ⟨lb,v,P,rfl,hP,hD⟩;clear E1;obtain⟨pv,cv,hv,_⟩:=cI (hD.hold.rowAt ae)
 by_cases U9:(eY d 90 (d.aW.length-90) first).deeds=[]
 ·have hPn:P=[]:=by rw[U9]at hP;simpa using hP
  subst hPn;have Zn:cd d first=first:=by rw[an Hef,if_pos U9]
  simp only[length_nil]at hv;subst hv
  have Y4:Hid (aE w0 w1 db d (eN lb db 90 (d.aW.length-90) (cd d first) 0::l2)):=by have h0:=Bh (get:=gE d.aW 90) (first:=first) (d.aW.length-90) 0 B5 (fun _=>rfl) U9;rw[Zn];have h1:=hD.eM (eJ _ []);unfold eY at h1;rw[h0]at h1;exact h1
  have Hem:=aq Zn;clear hP hD U9 Zn;go_wp2_with fail;go_ret3;exact⟨lb,by rw[an Hem];rfl,an Y4⟩
 ·have rX:0<P.length:=by
   rcases Nat.eq_zero_or_pos P.length with h|h
   ·exfalso;have:P=[]:=eq_nil_of_length_eq_zero h;subst this;exact U9 (by rw[<-hP];rfl)
   ·exact h
  have Zn:cd d first=first+1:=by rw[an Hef,if_neg U9]
  obtain⟨np,hnp⟩:=aa P.length;rw[hnp]at hv rX;subst hv;have XY:¬(np:Int)=0:=by omega
  have hc:((first+1:Nat):Int)=(first:Int)+1:=by omega
  have e3:=an E2 w1 _ hD;rw[hc]at e3;have E3:=aq e3;have Hem:=aq Zn;clear hP hD U9 Zn e3 E2 rX hnp hc;go_wp2_with fail;refine(an E3).mono ?_;rintro e w2 ⟨Wb,v2,P2,rfl,hP2,Cg⟩;obtain⟨pv2,cv2,wE,_⟩:=cI (Cg.hold.rowAt ae);subst wE
  have Y4:Hid (aE w0 w2 db d (eN Wb db 90 (d.aW.length-90) (cd d first) 0::l2)):=by
   have h1:=Cg.eM (eJ _ P2);have hu:=an Q2;rw[an Hem]at hu ⊢;rw[hu]at h1
   have h2:=h1.perm (l3:=(eJ (.slice pv np cv) P++[eN lb db 90 (d.aW.length-90) first (eY d 90 (d.aW.length-90) first).av])++(eN Wb db 90 (d.aW.length-90) (first+1) 0::l2)) (by
    have:=(perm_middle (a:=eN Wb db 90 (d.aW.length-90) (first+1) 0) (l₁:=eJ (.slice pv np cv) P++[eN lb db 90 (d.aW.length-90) first (eY d 90 (d.aW.length-90) first).av]) (l₂:=l2))
    simpa using this)
   exact h2.eM _
  clear hP2 Cg E3;go_wp2_with fail;go_ret3;exact⟨Wb,by rw[an Hem];first|rfl|simp,an Y4⟩
structure cO (w:World) where
 wld:World
 bel:Below w.heap.size w wld
instance (w:World):Nonempty (cO w):=⟨⟨w,Below.refl _ _⟩⟩
theorem bG {P:Program} {id:Nat} {Q:Exit->Act->World->Prop} {a:Act} {w:World} {l:List Oper} (hm:P.follows .mixedOrders=true) (hB:Region.lexB .any l.toArray=true)
 (h:wpQuiet P l.toArray (fun w'=>∃u:cO w,w'=u.wld) (fun a'=>∀w',(∃u:cO w,w'=u.wld)->Q .normal a' w') l a):(Code.region id l.toArray true).wp P Q a w:=
 wp_region_quiet (C:=fun w'=>∃u:cO w,w'=u.wld) hm hB ⟨⟨_,(Below.refl _ _).drew⟩,rfl⟩ (by simpa using h)
theorem Calls.later {P:Program} {f:FuncId} {args:Array Value} {w:World} {u:cO w} {v:Value}
 (h:Calls P f args u.wld fun e w'=>e=.returned v/\Below u.wld.heap.size u.wld w'):Calls P f args u.wld fun e F9=>e=.returned v/\∃u':cO w,F9=u'.wld:=
 h.mono fun _ w' ⟨he,hb⟩=>⟨he,⟨w',u.bel.trans (hb.mono u.bel.size)⟩,rfl⟩
theorem AF (s:ByteArray) (hs:s.size<=4) (w:World):Calls prog 159 #[.string s] w fun e w'=>e=.returned (.int .u32 (nP s.data.toList:Int))/\Below w.heap.size w w':=
 (nh s hs w).mono fun e w' ⟨he,n,hw⟩=>⟨he,by rw[hw];exact((aw.init w).drewN n).below⟩
theorem qb (s:ByteArray) (b:Nat) (hb:b<=4) (hs:b<=s.size) (yl:s.size<=1000000) (w:World):
 Calls prog 101 #[.string s,.int .i64 b] w fun e w'=>e=.returned (.tuple #[.int .i64 (nP (s.extract 0 b).data.toList:Int),.string (s.extract b s.size)])/\Below w.heap.size w w':=by
 have hz:(s.extract 0 b).size<=4:=by rw[ByteArray.size_extract];omega
 have en:=fun u:cO w=>AF (s.extract 0 b) hz u.wld
 have eO:=zu (s.extract 0 b).data.toList;have KN:(s.extract 0 b).data.toList.length<=4:=by rw[Array.length_toList];exact hz
 have hq:nP (s.extract 0 b).data.toList<4294967296:=Nat.lt_of_lt_of_le eO (Nat.le_trans (Nat.pow_le_pow_right (by omega) KN) (by decide));obtain⟨q,hqq⟩:=aa (nP (s.extract 0 b).data.toList);rw[hqq]at hq ⊢;simp only[hqq]at en;have EN:=aq en;have hbz:(b:Int)<=(s.size:Int):=by omega
 have hb0:(0:Int)<=(b:Int):=by omega
 clear en eO KN hqq hz;go_enter func101,ntmps101;go_wp2_with fail;refine bG (by kernel_rfl) (by kernel_rfl) ?_
 repeat (go_big_quiet_step (first|(go_at_call 159;refine Calls.later (an EN _))))
 refine wpQuiet_nil ?_;intro _ hw';obtain⟨uq,hw''⟩:=hw';subst hw'';have HB:=aq uq.bel;go_wp2_with fail;go_ret2;exact⟨rfl,an HB⟩
def kn:List UInt8:=[106,111,98,99,97,115,101,32,115,116,111,114,101,10]
def iJ (aH bytes f1:Nat):List UInt8:=kn++dw aH 1++dw bytes 2++dw f1 4
theorem Eb (aH bytes f1:Nat) (hh:aH<=1) (hb:bytes<=65535) (hf:f1<=1000000) (w:World):
 Calls prog 157 #[.agg #[.int .i64 aH,.int .i64 bytes,.int .i64 ((f1:Int)+1)]] w fun e w'=>e=.returned (.string (bt (iJ aH bytes f1)))/\Below w.heap.size w w':=by
 have h1:=(aw.init w).aY 111 [.int .i64 aH,.int .i64 bytes,.int .i64 ((f1:Int)+1)];obtain⟨B,hB⟩:=aa w.heap.size;rw[hB]at h1;obtain⟨w1,iD⟩:=aa (w.alloc (.cells #[.int .i64 aH,.int .i64 bytes,.int .i64 ((f1:Int)+1)] 111));have h1':aw w w1 [.cell B 111 [.int .i64 aH,.int .i64 bytes,.int .i64 ((f1:Int)+1)]]:=by rw[<-iD];exact h1
 have c0:=fun u:cO w1=>(h1'.over u.bel).cellAt ae (j:=0) rfl
 have c1:=fun u:cO w1=>(h1'.over u.bel).cellAt ae (j:=1) rfl
 have c2:=fun u:cO w1=>(h1'.over u.bel).cellAt ae (j:=2) rfl
 have l1:=fun u:cO w1=>gq aH 1 (by omega) (by decide) u.wld
 have l2:=fun u:cO w1=>gq bytes 2 (by omega) (by decide) u.wld
 have l4:=fun u:cO w1=>gq f1 4 (by omega) (by decide) u.wld
 have k1:IntKind.u32.wrap (aH:Int)=(aH:Int):=by rw[IntKind.wrap_u32];omega
 have k2:IntKind.u32.wrap (bytes:Int)=(bytes:Int):=by rw[IntKind.wrap_u32];omega
 have k4:IntKind.u32.wrap (f1:Int)=(f1:Int):=by rw[IntKind.wrap_u32];omega
 obtain⟨s1,rV⟩:∃b:ByteArray,⟨(dw aH 1).toArray⟩=b:=⟨_,rfl⟩;obtain⟨s2,yl⟩:∃b:ByteArray,⟨(dw bytes 2).toArray⟩=b:=⟨_,rfl⟩;obtain⟨s4,Dk⟩:∃b:ByteArray,⟨(dw f1 4).toArray⟩=b:=⟨_,rfl⟩
 have mz:bt (iJ aH bytes f1)=(⟨#[106,111,98,99,97,115,101,32,115,116,111,114,101,10]⟩:ByteArray)++s1++s2++s4:=by rw[<-rV,<-yl,<-Dk];have e1:(⟨#[106,111,98,99,97,115,101,32,115,116,111,114,101,10]⟩:ByteArray)++⟨(dw aH 1).toArray⟩=bt (kn++dw aH 1):=ByteArray.mk_append_mk kn _;have e2:bt (kn++dw aH 1)++⟨(dw bytes 2).toArray⟩=bt (kn++dw aH 1++dw bytes 2):=ByteArray.mk_append_mk _ _;have e3:bt (kn++dw aH 1++dw bytes 2)++⟨(dw f1 4).toArray⟩=bt (kn++dw aH 1++dw bytes 2++dw f1 4):=ByteArray.mk_append_mk _ _;rw[e1,e2,e3];rfl
 have z1:s1.size=1:=by rw[<-rV];show(dw aH 1).toArray.size=1;rw[size_toArray,bR]
 have z2:s2.size=2:=by rw[<-yl];show(dw bytes 2).toArray.size=2;rw[size_toArray,bR]
 have z4:s4.size=4:=by rw[<-Dk];show(dw f1 4).toArray.size=4;rw[size_toArray,bR]
 rw[rV]at l1;rw[yl]at l2;rw[Dk]at l4;rw[mz];have L1:=aq l1;have L2:=aq l2;have L4:=aq l4;have HB:=aq h1'.below;clear h1 h1' l1 l2 l4 rV yl Dk mz;go_enter func157,ntmps157;go_wp2_with fail;refine bG (by kernel_rfl) (by kernel_rfl) ?_
 repeat (go_big_quiet_step (first|(go_at_call_of 209 (Value.int .i64 1);refine Calls.later (an L1 _))|(go_at_call_of 209 (Value.int .i64 2);refine Calls.later (an L2 _))|(go_at_call_of 209 (Value.int .i64 4);refine Calls.later (an L4 _))))
 refine wpQuiet_nil ?_;intro _ hw';obtain⟨uq,hw''⟩:=hw';subst hw'';have Qf:=aq ((an HB).trans (uq.bel.mono (an HB).size));go_wp2_with fail;go_ret;exact⟨rfl,an Qf⟩
theorem L6:(prog.info? 180).map (·.size)=some 2:=by kernel_rfl
theorem UG:liesAt prog prog.depth 180 (2 / prog.cellsOf 180) 0 180 1=true:=by kernel_rfl
theorem abB:(prog.info? 5).map (fun i=>(i.zero,i.size,i.bytes))=some (some (.int .u8 0),1,1):=by kernel_rfl
theorem BE (b:Nat) (w:World) (h0:w.cell? ⟨b,0,none⟩=some (.pointer (some ⟨b,0,none⟩))):
 Calls prog 160 #[.pointer (some ⟨b,0,none⟩)] w fun e w'=>e=.returned (.tuple #[])/\w'=w:=by
 obtain⟨j,hj,_⟩:=Option.map_eq_some_iff.1 L6;have dr:=Lib.run_neq_ptr_same w ⟨b,0,none⟩ underlying177 hj;go_enter func160,ntmps160;go_wp2_with fail
 go_end0
 exact⟨rfl,rfl⟩
theorem zf (b:Nat) (w:World) (h0:w.cell? ⟨b,0,none⟩=some (.pointer none)) (gX:w.shape? b=some (180,2)) (hfz:w.frozen? ⟨b,0,none⟩=false):
 Calls prog 160 #[.pointer (some ⟨b,0,none⟩)] w fun e w'=>e=.returned (.tuple #[])/\w'=w.setCell ⟨b,0,none⟩ (.pointer (some ⟨b,0,none⟩)):=by
 obtain⟨j,hj,Zj⟩:=Option.map_eq_some_iff.1 L6;have hu:=Lib.run_to_unsafe w ⟨b,0,none⟩ underlying177 underlying276 hj (by rw[Zj];decide) gX (Nat.zero_lt_succ 1);have hf:=Lib.run_from_unsafe w ⟨b,0,none⟩ underlying276 underlying177 hj gX UG;go_enter func160,ntmps160;go_wp2_with fail;rw[run_callFunc_extern func212 (by kernel_rfl) (by kernel_rfl) (by kernel_rfl) (e:=Extern.AbiNoEscape.same) (by kernel_rfl),Lib.run_noEscape];simp only[Result.andThen];rw[Oper.upon_value];go_wp2_with fail
 go_end0
 exact⟨rfl,rfl⟩
theorem zg (B b:Nat) (bs:List Value) (w:World) (h:Lib.IsBuilder 180 5 B b bs w):
 Calls prog 160 #[.pointer (some ⟨b,0,none⟩)] w fun e w'=>e=.returned (.tuple #[])/\(Lib.BuilderAt 180 5 B b (.pointer (some ⟨b,0,none⟩)) bs w'/\Below B w w'):=by
 rcases h with h|h
 ·refine(zf b w h.cell0 h.shape h.frozen0).mono ?_;rintro e w' ⟨rfl,rfl⟩;exact⟨rfl,h.used _,(Below.refl B w).setCell (p:=⟨b,0,none⟩) h.1 _⟩
 ·refine(BE b w h.cell0).mono ?_;rintro e w' ⟨rfl,rfl⟩;exact⟨rfl,h,Below.refl B _⟩
def td (B b:Nat) (l:List UInt8) (n:Nat) (w:World) (e:Ending) (w':World):Prop:=e=.returned (.tuple #[.int .i64 n,.nilIface])/\Lib.IsBuilder 180 5 B b (ez l) w'/\Below B w w'
theorem nV (B b:Nat) (l:List UInt8) (s:ByteArray) (w:World) (h:Lib.IsBuilder 180 5 B b (ez l) w) (hlen:l.length+s.size<=1000000) (T8:B<=w.heap.size):
 Calls prog 104 #[.pointer (some ⟨b,0,none⟩),.string s] w fun e w'=>td B b (l++s.data.toList) s.size w e w':=by
 obtain⟨i0,hi,hz0,fE,fD⟩:=info_parts abB;have ec:=zg B b (ez l) w h;have EC:=aq ec;clear ec h;unfold td;go_enter func104,ntmps104;go_wp2_with fail;refine(an EC).mono ?_;rintro e w1 ⟨rfl,h1,dJ⟩;obtain⟨hB,v,hbk,ft,dr⟩:=h1;have c1:w1.cell? ⟨b,1,none⟩=some v:=by rw[Lib.cell_of_heap hbk];rfl
 have TF:=aq dJ;clear dJ EC
 go_wp2_with (at_builtin;refine Lib.wpList_append_own_string _ rfl _ _ 178 9 rfl B 5 i0 underlying178 underlying9 hi hz0 fE fD _ _ _ rfl ft s rfl ?c3 ?c4 ?c5 ?_)
 case c3=>rw[ey];unfold maxLen;omega
 case c4=>rw[ey];omega
 case c5=>have:=(an TF).size;omega
 intro v' w2 yn qQ _;have eO:b<w1.heap.size:=(Array.getElem?_eq_some_iff.1 hbk).1
 have cC:w2.heap[b]? = some (.cells #[.pointer (some ⟨b,0,none⟩),v] 180 (0,0)):=by rw[qQ.block b eO (fun e=>dr e.symm)];exact hbk
 have d1:w2.cell? ⟨b,1,none⟩=some v:=by rw[Lib.cell_of_heap cC];rfl
 have f1:w2.frozen? ⟨b,1,none⟩=false:=Lib.frozen_of_heap cC 1;obtain⟨ao,aU,IC,_⟩:=cI yn;subst IC;have Ho:=aq yn;have Hg:=aq qQ;have Hk:=aq ft;clear yn qQ ft;go_wp2_with fail;go_ret2;refine⟨rfl,.inr ?_,?_⟩
 ·have e1:ez (l++s.data.toList)=ez l++Lib.strCells s:=by
   unfold ez Lib.strCells;rw[map_append]
  rw[e1];exact Lib.BuilderAt.put (T:=180) (e:=5) hB cC (bs':=ez l++Lib.strCells s) (by simpa[Lib.strCells_length]using an Ho) (by decide)
 ·exact((an TF).grown (an Hg) (by have:=(an TF).size;omega) (fun k hk=>((an Hk).lt k hk).1)).setCell (p:=⟨b,1,none⟩) hB _
end Go.Proofs.YtphcnmlbieokoaaGreatDoor.S
namespace Go.Proofs
open Go.Shelf
open List
open Go.Proofs.Tryz
def Tryz.lays170_ren:Go.Shelf.Ren:=⟨fun | 170=>102|n=>n,fun | 70=>177 | 3=>3 | 0=>0 | 72=>180 | 37=>178 | 5=>5|n=>n,fun|n=>n⟩
theorem Tryz.lays170:Go.Proofs.Lays.n170 prog Tryz.lays170_ren:={
 mixed:=by kernel_rfl
 f170:=ad func102
 t0:=underlying0
 a0:=isAgg0
 z0:=sizeOf0
 v0:=zeroValue0
 t3:=underlying3
 a3:=isAgg3
 z3:=sizeOf3
 v3:=zeroValue3
 t37:=underlying178
 a37:=isAgg178
 z37:=sizeOf178
 v37:=zeroValue178
 t70:=underlying177
 a70:=isAgg177
 z70:=sizeOf177
 v70:=zeroValue177
 t72:=underlying180
 a72:=isAgg180
 z72:=sizeOf180
 v72:=zeroValue180}
open Go.RowKit in
theorem Tryz.Builder_Len (B b:Nat) (bs:List Value) (w:World) (h:Lib.IsBuilder 180 5 B b bs w):
 Calls prog 102 #[.pointer (some ⟨b,0,none⟩)] w fun e w'=>e=.returned (.int .i64 bs.length)/\w'=w:=Any.Builder_Len Tryz.lays170 B b bs w h
def Tryz.lays169_ren:Go.Shelf.Ren:=⟨fun | 169=>106|n=>n,fun | 70=>177 | 9=>9 | 0=>0 | 72=>180 | 37=>178 | 127=>231 | 3=>3 | 5=>5|n=>n,fun|n=>n⟩
theorem Tryz.lays169:Go.Proofs.Lays.n169 prog Tryz.lays169_ren:={
 mixed:=by kernel_rfl
 f169:=ad func106
 t0:=underlying0
 a0:=isAgg0
 z0:=sizeOf0
 v0:=zeroValue0
 t3:=underlying3
 a3:=isAgg3
 z3:=sizeOf3
 v3:=zeroValue3
 t9:=underlying9
 a9:=isAgg9
 z9:=sizeOf9
 v9:=zeroValue9
 t37:=underlying178
 a37:=isAgg178
 z37:=sizeOf178
 v37:=zeroValue178
 t70:=underlying177
 a70:=isAgg177
 z70:=sizeOf177
 v70:=zeroValue177
 t72:=underlying180
 a72:=isAgg180
 z72:=sizeOf180
 v72:=zeroValue180
 t127:=underlying231
 a127:=isAgg231
 z127:=sizeOf231
 v127:=zeroValue231}
theorem Tryz.wB:Builder.Extra prog Tryz.lays169_ren:={
 sizeBuilder:=by kernel_rfl
 liesBuilder:=by kernel_rfl
 t5:=underlying5
 a5:=isAgg5
 z5:=sizeOf5
 v5:=zeroValue5
 infoByte:=by kernel_rfl
 cellsByte:=by kernel_rfl
 sizeByte:=by kernel_rfl
 neB5:=by decide}
open Go.RowKit in
theorem Tryz.Builder_String_any (B b:Nat) (l:List UInt8) (w:World) (h:Lib.IsBuilder 180 5 B b (Lib.byteCells l) w) (T8:B<=w.heap.size):
 Calls prog 106 #[.pointer (some ⟨b,0,none⟩)] w fun e w'=>e=.returned (.string ⟨l.toArray⟩)/\Below B w w':=Any.Builder_String_any Tryz.lays169 Tryz.wB B b l w h T8
def Tryz.lays103_ren:Go.Shelf.Ren:=⟨fun | 103=>77 | 210=>121 | 206=>180|n=>n,fun | 9=>9 | 4=>4 | 24=>145 | 3=>3|n=>n,fun|n=>n⟩
theorem Tryz.lays103:Go.Proofs.Lays.n103 prog Tryz.lays103_ren:={
 mixed:=by kernel_rfl
 f103:=ad func77
 f206:=ad func180
 f210:=ad func121
 t3:=underlying3
 a3:=isAgg3
 z3:=sizeOf3
 v3:=zeroValue3
 t4:=underlying4
 a4:=isAgg4
 z4:=sizeOf4
 v4:=zeroValue4
 t9:=underlying9
 a9:=isAgg9
 z9:=sizeOf9
 v9:=zeroValue9
 t24:=underlying145
 a24:=isAgg145
 z24:=sizeOf145
 v24:=zeroValue145}
open Go.RowKit in
theorem Tryz.strings_CutPrefix (s p:ByteArray) (w:World):
 Calls prog 77 #[.string s,.string p] w fun e w'=>e=.returned (.tuple #[.string ⟨(Lib.trimPrefix s.data.toList p.data.toList).toArray⟩,.bool (Lib.hasPrefix s.data.toList p.data.toList)])/\w'=w:=Any.strings_CutPrefix Tryz.lays103 s p w
end Go.Proofs
namespace Go.Proofs.YtphcnmlbieokoaaGreatDoor.S
open Go.RowKit Go.Lib List Go.Proofs.Tryz
theorem iz {B b:Nat} {bs:List Value} {w w':World} (h:Lib.IsBuilder 180 5 B b bs w) (hb:Below w.heap.size w w'):Lib.IsBuilder 180 5 B b bs w':=by
 have az:∀p,Lib.BuilderAt 180 5 B b p bs w->Lib.BuilderAt 180 5 B b p bs w':=fun p ⟨h1,v,h2,h3,h4⟩=>
  ⟨h1,v,(hb.block b (Array.getElem?_eq_some_iff.1 h2).1).trans h2,(Kept.iH (S:=fun _=>False) hb).row h3 (fun _ _ h=>h),h4⟩
 exact h.imp (az _) (az _)
theorem CV (l:List UInt8):ez l=Lib.byteCells l:=rfl
def Ek (c:bn):List UInt8:=dw (bZ c).length 1++bZ c
def bB (l:List bn):List UInt8:=(l.map Ek).flatten
theorem Kb (l:List bn) (c:bn):bB (l++[c])=bB l++Ek c:=by simp[bB]
theorem xU {c:bn} (h:aR c=none):(Ek c).length<=95:=by
 have:=iW h;simp only[Ek,length_append,bR];omega
theorem eL:∀{l:List bn},(∀c∈l,aR c=none)->(bB l).length<=l.length*95
 |[],_=>by simp[bB]
 |c::l,h=>by
  have h1:=xU (h c (by simp));have h2:=eL (l:=l) fun x hx=>h x (by simp[hx])
  simp only[bB,map_cons,flatten_cons,length_append,length_cons]at *;omega
theorem Ea (v:Value) (L:List bn) (w:World) (h:F7 w v L) (hn:L.length<=100) (hc:∀c∈L,aR c=none):
 Calls prog 153 #[v] w fun e w'=>e=.returned (.tuple #[.string (bt (bB L)),.nilIface])/\Below w.heap.size w w':=by
 obtain⟨pv,cv,hv⟩:=iP.slice h;subst hv;obtain⟨n,nN⟩:=aa L.length;have HH:Hid (iP w (.slice pv n cv) n (fun i=>L.getD i CJ)):=by have:=h;unfold F7 at this;rw[nN]at this;exact this
 rw[nN]at hn ⊢;have Hn:=aq nN;have HC:=aq hc;obtain⟨bb,qD⟩:=aa w.heap.size;have H0:Hid (Lib.IsBuilder 180 5 bb bb (ez (bB (L.take 0))) (w.alloc (.cells #[.pointer none,.slice none 0 0] 180))):=by rw[<-qD];exact Lib.fresh_isBuilder 180 5 w
 have Xf:Hid (Below w.heap.size w (w.alloc (.cells #[.pointer none,.slice none 0 0] 180))):=(Below.refl _ w).alloc (Nat.le_refl _) _;have Tt:=aq qD;clear h hc nN;go_enter func153,ntmps153;go_wp2_with fail
 go_loopg [11] (n+1) (fun g vi wr=>∃(i:Nat),n-i<g/\i<=n/\vi=.int .i64 i/\Hid (Lib.IsBuilder 180 5 bb bb (ez (bB (L.take i))) wr)/\Hid (Below w.heap.size w wr))
 case atStart=>exact⟨0,by omega,by omega,rfl,H0,Xf⟩
 case round=>
  clear H0 Xf;obtain⟨i,hg,hi,rfl,HI,HB⟩:=hrel;have PW:bb<=wr.heap.size:=by rw[<-an Tt];exact(an HB).size
  by_cases gY:i<n
  ·have mI:(i:Int)<(n:Int):=by omega
   rcases an HH with⟨_,h0⟩|⟨b,off,c,hv,_,hbW,ct⟩
   ·omega
   injection hv with e1 e2 e3;subst e1 e3;clear e2;obtain⟨t0,t1,t2⟩:=ct i gY;simp only at t0 t1 t2;have q0:=(bP (an HB) (p:=⟨b,off+i*3,none⟩) hbW).trans t0;have q1:=(bP (an HB) (p:=⟨b,off+i*3+1,none⟩) hbW).trans t1;have q2:=(bP (an HB) (p:=⟨b,off+i*3+2,none⟩) hbW).trans t2;have oO:L[i]? = some (L.getD i CJ):=by rw[List.getD,getElem?_eq_getElem (by rw[an Hn];exact gY)];rfl
   have wH:=an HC _ (mem_of_getElem? oO);have Mn:L.take (i+1)=L.take i++[L.getD i CJ]:=by rw[take_add_one,oO];rfl
   obtain⟨C,hC⟩:=aa (L.getD i CJ);rw[hC]at q0 q1 q2 wH Mn;have uF:=iW wH;have eb:=fun wx=>yH C wx
   have I1:su C=bZ C:=by unfold su;rw[wH];rfl
   unfold wu at eb;rw[I1,wH]at eb;have Mx:(⟨(bZ C).toArray⟩:ByteArray)=bt (bZ C):=rfl;rw[Mx]at eb;have uw:=eL (l:=L.take i) fun x hx=>an HC x (mem_of_mem_take hx)
   have Cy:(L.take i).length<=100:=by rw[length_take];omega
   have gP:(bt (bZ C)).size=(bZ C).length:=cB _;have el:=fun wx=>gq (bZ C).length 1 (by omega) (by decide) wx
   have Cx:IntKind.u32.wrap ((bZ C).length:Int)=((bZ C).length:Int):=by rw[IntKind.wrap_u32];omega
   obtain⟨bl,hbl2⟩:=aa ((bZ C).length);have R6:(⟨(dw bl 1).toArray⟩:ByteArray)++bt (bZ C)=bt (Ek C):=by unfold Ek;rw[hbl2];exact ByteArray.mk_append_mk _ _
   have ew:=fun wx (hx:Lib.IsBuilder 180 5 bb bb (ez (bB (L.take i))) wx) (hb:bb<=wx.heap.size)=>nV bb bb (bB (L.take i)) (bt (Ek C)) wx hx (by rw[cB];have:=xU wH;omega) hb
   unfold td at ew;rw[fK,<-Kb,<-Mn]at ew;rw[hbl2]at el Cx gP uF;obtain⟨S,hS⟩:=aa (bt (bZ C));obtain⟨S1,hS1⟩:∃S:ByteArray,⟨(dw bl 1).toArray⟩=S:=⟨_,rfl⟩;have fE:S1.size=1:=by rw[<-hS1];show(dw bl 1).toArray.size=1;rw[size_toArray,bR]
   rw[hS]at eb gP R6;rw[hS1]at el R6;obtain⟨SR,hSR⟩:∃S,bt (Ek C)=S:=⟨_,rfl⟩;rw[hSR]at ew R6;obtain⟨ab,hab⟩:=aa wr.heap.size;have ha:=(aw.init wr).aY 86 [.string C.az,.string C.val,.bool C.gone];rw[hab]at ha;obtain⟨wa,hwa⟩:=aa (wr.alloc (.cells #[.string C.az,.string C.val,.bool C.gone] 86));have ha':aw wr wa [.cell ab 86 [.string C.az,.string C.val,.bool C.gone]]:=by rw[<-hwa];exact ha
   have k0:wa.cell? ⟨ab,0,none⟩=some (.string C.az):=ha'.cellAt ae rfl;have k1:wa.cell? ⟨ab,1,none⟩=some (.string C.val):=ha'.cellAt ae rfl;have k2:wa.cell? ⟨ab,2,none⟩=some (.bool C.gone):=ha'.cellAt ae rfl;have EB:=aq eb;have EL:=aq el;have EW:=aq ew;have HA:=aq ha'.below;clear eb el ew ha ha' ct t0 t1 t2 oO wH Mn hC I1 Mx uw Cy hbl2 hS hS1 hSR;obtain⟨az,val,gone⟩:=C;unfold MW at EB;simp only[bH]at q0 q1 q2 k0 k1 k2 EB;go_wp2_with fail;refine(an EB _).mono ?_;rintro e w2 ⟨rfl,cC⟩;have R4:=(an HA).trans (cC.mono (an HA).size)
   have VZ:=aq (iz (an HI) R4);have Qf:=aq ((an HB).trans (R4.mono (an HB).size));clear cC R4 EB k0 k1 k2 q0 q1 q2;go_wp2_with fail;refine(an EL _).mono ?_;rintro e w3 ⟨rfl,hQ⟩;have VY:=aq (iz (an VZ) hQ);have HB3:=aq ((an Qf).trans (hQ.mono (an Qf).size));have aep:bb<=w3.heap.size:=by rw[<-an Tt];exact(an HB3).size
   clear hQ EL;go_wp2_with fail;refine(an EW _ (an VY) aep).mono ?_;rintro e w4 ⟨rfl,hI4,iU⟩;have Y2:=aq hI4;have HB4:Hid (Below w.heap.size w w4):=(an HB3).trans (by rw[an Tt];exact iU);clear hI4 iU EW;go_wp2_with fail
   go_roundg (n-i)
   case measure=>omega
   case rel=>exact⟨i+1,by omega,by omega,by simp,Y2,HB4⟩
  ·have mI:¬(i:Int)<(n:Int):=by omega
   have hI:=an HI;rw[take_of_length_le (by rw[an Hn];omega),CV]at hI;have es:=Tryz.Builder_String_any bb bb (bB L) wr hI PW;have es':Calls prog 106 #[.pointer (some ⟨bb,0,none⟩)] wr fun e w'=>e=.returned (.string (bt (bB L)))/\Below bb wr w':=es
   have ES:=aq es';clear es es' hI;go_wp2_with fail;refine(an ES).mono ?_;rintro e w2 ⟨rfl,cC⟩;have Qf:Hid (Below w.heap.size w w2):=(an HB).trans (by rw[an Tt];exact cC);clear cC ES;go_wp2_with fail;go_ret2;exact⟨rfl,an Qf⟩
attribute [local go_sem] Oper.semAt_some
theorem Pf (s:ByteArray) (w:World):Calls prog 154 #[.string s] w fun e w'=>e=.returned (.func (.func 210) #[] #[.pointer (some ⟨w.heap.size,0,none⟩)])/\w'=w.alloc (.cells #[.string s] 9):=by
 go_enter func154,ntmps154;go_wp2_with fail;go_ret;exact⟨rfl,rfl⟩
theorem VB (n l Bx:Nat) (hn:1<=n) (J J':Nat->ByteArray->World->Prop) (Jx:World->Prop)
 (hJ:∀k s W,J k s W->W.cell? ⟨Bx,0,none⟩=some (.string s)/\W.frozen? ⟨Bx,0,none⟩=false)
 (hJ':∀k s W,J' k s W->W.cell? ⟨Bx,0,none⟩=some (.string s)/\W.frozen? ⟨Bx,0,none⟩=false/\J (k+1) (s.extract (min s.size 140) s.size) (W.setCell ⟨Bx,0,none⟩ (.string (s.extract (min s.size 140) s.size))))
 (hY:∀k s W,J k s W->0<s.size->YieldAt Fence.wide (n-1) prog l #[.int .i64 k,.string (s.extract 0 (min s.size 140))] W fun e W'=>(e=.returned (.bool true)/\J' k s W')∨(e=.returned (.bool false)/\Jx W'))
 (T:ByteArray) (hT:T.size<=1000000) (W:World) (h0:J 0 T W):
 CallsIn Fence.wide n prog 210 #[.func (.yield l) #[] #[],.pointer (some ⟨Bx,0,none⟩)] W fun e W'=>(∃v,e=.returned v)/\((∃m s,s.size=0/\J m s W')∨Jx W'):=by
 have HJ:=aq hJ;have HJ2:=aq hJ';have HY:=aq hY;have H0:=aq h0;clear hJ hJ' hY h0;refine callsIn_of_wp func210 rfl trivial ?_ rfl;simp only[ntmps210,size_toArray,length_cons,length_nil,Nat.reduceAdd,Nat.reduceSub,Array.replicate_succ,Array.replicate_zero,push_toArray,append_toArray,nil_append,cons_append]
 gi_wp2
 gi_loopw [3] (fun p wr=>∃(k:Nat) (s:ByteArray),p=.int .i64 k/\s.size+k<=T.size/\Hid (J k s wr))
  (fun p wr=>T.size+1-(RowKit.intOf p).toNat)
 case atStart=>exact⟨0,T,rfl,by omega,H0⟩
 case round=>
  clear H0;obtain⟨k,s,rfl,hk,HJs⟩:=hrel;obtain⟨hc,hf⟩:=an HJ k s wr (an HJs)
  by_cases hz:s.size=0
  ·have hs:s=⟨#[]⟩:=by
    cases s with|mk d=>
    have:d=#[]:=Array.eq_empty_of_size_eq_zero hz;rw[this]
   have afH:=HJs;clear HJs;subst hs
   gi_wp2
   go_end0
   exact⟨⟨_,rfl⟩,.inl ⟨k,_,rfl,an afH⟩⟩
  ·have rX:0<s.size:=by omega
   have hs:s.toList.isEmpty=false:=by
    rw[ByteArray.toList_eq]
    cases hd:s.data.toList with
    |nil=>
     exfalso;have:s.data.toList.length=0:=by rw[hd];rfl
     rw[Array.length_toList]at this;exact hz this
    |cons a l=>rfl
   obtain⟨fn,tmps,assign,body,hy,hR⟩:=an HY k s wr (an HJs) rX;have TW:min (s.size:Int) 140=((min s.size 140:Nat):Int):=by omega
   have HR:=aq hR;have dJ:((min s.size 140:Nat):Int)<=(s.size:Int):=by omega
   have hb0:(0:Int)<=((min s.size 140:Nat):Int):=by omega
   obtain⟨mn,qZ⟩:=aa (min s.size 140);rw[qZ]at hy TW dJ hb0;clear hR
   gi_wp2
   refine(an HR).mono ?_;rintro e W3 (⟨rfl,hJ3⟩|⟨rfl,hJx3⟩)
   ·obtain⟨Vb,hf3,hset3⟩:=an HJ2 _ _ _ hJ3;rw[qZ]at hset3
    gi_wp2
    go_roundw
    case rel=>refine⟨k+1,s.extract mn s.size,by simp,?_,hset3⟩;rw[ByteArray.size_extract];omega
    case measure=>simp only[RowKit.intOf,getElem?_toArray,Array.getD];omega
   ·gi_wp2
    refine bodyPost_ret (results_none rfl _ _ _) rfl ?_;exact⟨⟨_,rfl⟩,.inr hJx3⟩
section
section
variable {w0 w:World}
theorem Kept.putObj {S:Nat->Prop} {a w:World} (h:Kept S a w) {b:Nat} (hp:b<a.heap.size->S b) (o:Obj):Kept S a (w.putObj b o):=
 h.grown (grownBy_putObj' w b o) (fun k e hk=>by cases e;exact hp hk)
theorem aw.putObj (l1:List aI) {b:Nat} {o:Obj} {l2:List aI} (h:aw w0 w (l1++.obj b o::l2)) (o':Obj):aw w0 (w.putObj b o') (l1++.obj b o'::l2):=by
 have hc:=h.sat (.obj b o) (by simp);exact h.put l1 (Kept.putObj (Kept.refl _ w) (fun _=>by show 0<one b b;rw[bx];decide) o') ⟨hc.1,World.putObj_heap_same (Array.getElem?_eq_some_iff.1 hc.2).1⟩ (fun x _=>Nat.le_refl _)
theorem aw.newObj {rs:List aI} (h:aw w0 w rs) (o:Obj):aw w0 (w.alloc o) (.obj w.heap.size o::rs):=
 h.new ((Kept.refl _ w).alloc _) ⟨h.size,World.alloc_heap_new w o⟩ (fun x hx=>by obtain rfl:=one_pos.1 hx;exact Nat.le_refl _)
theorem aw.tG {rs:List aI} (h:aw w0 w rs) {b:Nat} {o:Obj} (hm:aI.obj b o∈rs):w.heap[b]? = some o:=(h.sat _ hm).2
end
theorem aE.putObj {w0 w:World} {db:Nat} {d:DK} (l1:List aI) {b:Nat} {o:Obj} {l2:List aI} (h:aE w0 w db d (l1++.obj b o::l2)) (o':Obj):aE w0 (w.putObj b o') db d (l1++.obj b o'::l2):=by
 obtain⟨dp,h1,h2⟩:=h.back;refine h2 _ _ ?_;rw[append_assoc]at h1 ⊢;exact h1.putObj l1 o'
theorem aE.newObj {w0 w:World} {db:Nat} {d:DK} {l2:List aI} (h:aE w0 w db d l2) (o:Obj):aE w0 (w.alloc o) db d (.obj w.heap.size o::l2):=by
 obtain⟨dp,h1,h2⟩:=h.back;exact h2 _ _ (h1.newObj o)
theorem NL {F:Fence} (hro:F.round=none) (hF:∀f,F.fn f) (U9:F.depth.isSome=false) {n:Nat} {P:Program} {g:Operand} {ps:Array Tmp} {assign body:Code} {Q:Exit->Go.Act->World->Prop} {a:Go.Act} {w:World} {gf:Nat} {lb:Array Value}
 (hg:a.eval g=.func (.func gf) #[] lb) (eg:∀args w,(callFunc gf args).run P w=.ok (.enter gf args) w)
 (h:∀(fn:FuncId),CallsIn F (n-1) P gf (#[.func (.yield (w.heap.size+1)) #[] #[]]++lb)
  ((w.alloc (.deferred (some []))).alloc (.loop {state:=.ready,pending:=none,fn:=fn,tmps:=a.tmps,params:=ps,assign:=assign,body:=body,defers:=w.heap.size}))
  (rangePost F n P (w.heap.size+1) Q {a with defers:=[{target:=.collected w.heap.size,args:=#[]}]++a.defers})):
 (Code.rangeFunc g ps assign body).wpIn F n P Q a w:=by
 refine wpIn_rangeFunc ?_;intro fn MD;rw[hro];have hf:=h fn;have he:=run_enterLoop_outer (P:=P) (w:=w) fn a.tmps ps assign body;obtain⟨W1,tu⟩:=aa ((w.alloc (.deferred (some []))).alloc (.loop {state:=.ready,pending:=none,fn:=fn,tmps:=a.tmps,params:=ps,assign:=assign,body:=body,defers:=w.heap.size}));rw[tu]at hf he
 refine⟨w.heap.size+1,[{target:=.collected w.heap.size,args:=#[]}],W1,{target:=.fn (.func gf) lb,args:=#[.func (.yield (w.heap.size+1)) #[] #[]]},W1,gf,
  #[.func (.yield (w.heap.size+1)) #[] #[]]++lb,W1,he,?_,?_,?_,?_,?_⟩
 ·simp only[resolve,hg];simp[go_sem]
 ·exact fun f' _=>hF f'
 ·simp[invoke,go_sem,eg]
 ·intro hd;rw[U9]at hd
  cases hd
 ·exact hf
theorem QD {n:Nat} {P:Program} {l:Nat} {W:World} {r:Loop} {args:Array Value} {R:Ending->World->Prop} (hl:W.heap[l]? = some (.loop r)) (hs:args.size=r.params.size)
 (h:r.assign.wpIn (Fence.wide.inRound l) n P (Exit.then (fun a₁ w₁=>∃w₂,(Instr.beginRound l).run P w₁=.ok () w₂/\r.body.wpIn (Fence.wide.inRound l) n P (roundPost P l R) a₁ w₂) (fun _ _ _=>False))
  {tmps:=(r.params.zip args).foldl (fun t (p,v)=>t.setIfInBounds p v) r.tmps,defers:=[]} W):YieldAt Fence.wide n P l args W R:=
 ⟨_,_,_,_,run_yield hl hs,roundIn_of_wpIn trivial h⟩
theorem NC {n:Nat} {P:Program} {l:Nat} {W:World} {r:Loop} {args:Array Value} {R:Ending->World->Prop} {a₁:Go.Act} (hl:W.heap[l]? = some (.loop r)) (gz:r.state=.ready) (hs:args.size=r.params.size)
 (Vf:∀K:Go.Act->World->Prop,K a₁ W->r.assign.wpIn (Fence.wide.inRound l) n P (Exit.then K (fun _ _ _=>False)) {tmps:=(r.params.zip args).foldl (fun t (p,v)=>t.setIfInBounds p v) r.tmps,defers:=[]} W)
 (aa9:r.body.wpIn (Fence.wide.inRound l) n P (roundPost P l R) a₁ (W.putObj l (.loop {r with state:=.busy}))):YieldAt Fence.wide n P l args W R:=
 QD hl hs (Vf _ ⟨_,run_beginRound hl gz,aa9⟩)
theorem QK {n:Nat} {P:Program} {g:Operand} {ps:Array Tmp} {assign body:Code} {Q:Exit->Go.Act->World->Prop} {a:Go.Act} {w:World} {gf:Nat} {lb:Array Value}
 (hg:a.eval g=.func (.func gf) #[] lb) (eg:∀args w,(callFunc gf args).run P w=.ok (.enter gf args) w)
 (h:∀(fn:FuncId) (r:Loop),r={state:=.ready,pending:=none,fn:=fn,tmps:=a.tmps,params:=ps,assign:=assign,body:=body,defers:=w.heap.size}->CallsIn Fence.wide (n-1) P gf (#[.func (.yield (w.heap.size+1)) #[] #[]]++lb)
  ((w.alloc (.deferred (some []))).alloc (.loop r))
  (rangePost Fence.wide n P (w.heap.size+1) Q {a with defers:=[{target:=.collected w.heap.size,args:=#[]}]++a.defers})):
 (Code.rangeFunc g ps assign body).wp P Q a w:=(wpIn_wide (n:=n)).1 (NL (F:=Fence.wide) rfl (fun _=>True.intro) rfl hg eg (fun fn=>h fn _ rfl))
theorem Qk {F:Fence} {n:Nat} {P:Program} {c:Code} {Q:Exit->Go.Act->World->Prop} {a:Go.Act} {w:World} (fr:Go.Act) (X:World->Prop) (h:c.wpIn F n P (fun e a' w'=>e=.normal/\a'=fr/\X w') a w) (h2:∀w',X w'->Q .normal fr w'):c.wpIn F n P Q a w:=
 Go.wpIn_mono h fun e a' w' hx=>by obtain⟨rfl,rfl,hw⟩:=hx;exact h2 _ hw
end
structure Gl (L:List bn):Prop where
 sorted:bf L
 ok:∀c∈L,aR c=none
 there:∀c∈L,c.gone=false
theorem UJ {b:ByteArray} (h:b.toList.isEmpty=false):dR ⟨#[]⟩ b:=by
 have h1:=kQ ⟨#[]⟩ b
 have h2:Op.bytesLess (⟨#[]⟩:ByteArray).toList b.toList=true:=by
  have e:(⟨#[]⟩:ByteArray).toList=[]:=by rw[Lib.toList_data]
  rw[e]
  cases hb:b.toList with
  |nil=>rw[hb]at h;cases h
  |cons x r=>rfl
 rw[h2]at h1;exact of_decide_eq_true h1.symm
theorem Kc (c:bn) (l:List bn):bB (c::l)=UInt8.ofNat (bZ c).length::(bZ c++bB l):=by
 have h:UInt8.ofNat ((bZ c).length%256)=UInt8.ofNat (bZ c).length:=by apply UInt8.toNat_inj.1;simp
 simp only[bB,map_cons,flatten_cons,Ek,dw,h];simp
theorem Vq (a:UInt8) (l:List UInt8):(bt (a::l)).extract 0 1=bt [a]:=by rw[dG];rfl
theorem Su (a:UInt8) (l:List UInt8):(bt (a::l)).extract 1 (bt (a::l)).size=bt l:=by
 rw[dG,cB,take_of_length_le (Nat.le_refl _)];rfl
theorem vM (a b:List UInt8):(bt (a++b)).extract 0 a.length=bt a:=by rw[dG,take_left];rfl
theorem sZ (a b:List UInt8):(bt (a++b)).extract a.length (bt (a++b)).size=bt b:=by
 rw[dG,cB,take_of_length_le (Nat.le_refl _),drop_left]
def zG (L:List bn) (w:World) (e:Ending) (w':World):Prop:=∃v,e=.returned (.tuple #[v,.nilIface])/\aw w w' [aO v L]
theorem Ej (L:List bn) (w:World) (hn:L.length<=100) (hk:Gl L):
 Calls prog 105 #[.string (bt (bB L))] w fun e w'=>zG L w e w':=by
 obtain⟨n,nN⟩:=aa L.length;rw[nN]at hn;have Hn:=aq nN;have HK:=aq hk;have H0:Hid (aw w w [aO (.slice none 0 0) (L.take 0)]):=(aw.init w).fJ 86 3;clear nN hk;go_enter func105,ntmps105;go_wp2_with fail
 go_loopg [0,4,5] (n+1) (fun g v0 v4 v5 wr=>∃(i:Nat) (last:ByteArray),n-i<g/\i<=n/\v0=.string (bt (bB (L.drop i)))/\v5=.string last/\Hid (aw w wr [aO v4 (L.take i)])/\Hid (∀c,L[i]? = some c->dR last c.az))
 case atStart=>exact⟨0,⟨#[]⟩,by omega,by omega,rfl,rfl,H0,fun c hc=>UJ (oq ((an HK).ok c (mem_of_getElem? hc))).1⟩
 case round=>
  clear H0;obtain⟨i,last,hg,hi,rfl,rfl,HH,HL⟩:=hrel;have hlen:(L.take i).length=i:=by rw[length_take,an Hn];omega
  obtain⟨p4,c4,hv4,_⟩:=cI ((an HH).rowAt ae);rw[hlen]at hv4;subst hv4
  by_cases gY:i<n
  ·obtain⟨C,hC⟩:∃C,L[i]? = some C:=⟨_,getElem?_eq_getElem (by rw[an Hn];exact gY)⟩;have uD:=mem_of_getElem? hC;have wH:=(an HK).ok C uD;have xl:=(an HK).there C uD;have eO:=an HL C hC
   have je:L.drop i=C::L.drop (i+1):=by
    have Cc:i<L.length:=by rw[an Hn];exact gY
    rw[drop_eq_getElem_cons Cc];rw[getElem?_eq_getElem Cc]at hC;rw[Option.some.inj hC]
   have ID:L.take (i+1)=L.take i++[C]:=by rw[take_add_one,hC];rfl
   have uF:=iW wH;have uw:=eL (l:=L.drop (i+1)) fun x hx=>(an HK).ok x (mem_of_mem_drop hx)
   have Cy:(L.drop (i+1)).length<=100:=by rw[length_drop,an Hn];omega
   have aay:=ya wH;have Wk:=Kc C (L.drop (i+1));rw[<-je]at Wk;obtain⟨R,hR⟩:=aa (bB (L.drop (i+1)));rw[hR]at Wk uw;obtain⟨bl,hbl2⟩:=aa ((bZ C).length);have x1:=Vq (UInt8.ofNat bl) (bZ C++R);have x2:=Su (UInt8.ofNat bl) (bZ C++R);have x3:=vM (bZ C) R;have x4:=sZ (bZ C) R;rw[hbl2]at Wk x3 x4 uF;have hTs:(bt (bB (L.drop i))).size=1+(bl+R.length):=by rw[Wk,cB,length_cons,length_append,hbl2];omega
   have Mq:(bt (bZ C++R)).size=bl+R.length:=by rw[cB,length_append,hbl2]
   have et:=qb (bt (bB (L.drop i))) 1 (by decide) (by omega) (by omega) wr;rw[Wk,x1,x2,fK]at et;have Gd:nP [UInt8.ofNat bl]=bl:=by simp[nP];omega
   rw[Gd,<-Wk]at et;have Fy:=fun wx=>l8 (bt (bZ C)) (by rw[cB];omega) wx
   unfold pS Es at Fy;rw[aay]at Fy
   have X0:((bt (bB (L.drop i))).toList==[])=false:=by rw[Lib.toList_data,fK,Wk];rfl
   obtain⟨T,hT⟩:=aa (bt (bB (L.drop i)));rw[hT]at et X0 hTs ⊢;obtain⟨Rs,hRs⟩:=aa (bt (bZ C++R));rw[hRs]at et x3 x4 Mq;obtain⟨Bc,hBc⟩:=aa (bt (bZ C));rw[hBc]at Fy x3;have HF:Hid (bt R=bt (bB (L.drop (i+1)))):=by rw[hR];exact rfl
   obtain⟨T2,hT2⟩:=aa (bt R);rw[hT2]at x4 HF;have nO:¬(Rs.size:Int)<(bl:Int):=by omega
   have hle:(bl:Int)<=(Rs.size:Int):=by omega
   obtain⟨az,val,gone⟩:=C;simp only at xl;subst xl;unfold MW at Fy;simp only[Option.getD_some,Option.isSome_some,if_true,bH]at Fy;have l1:Op.bytesLess az.toList last.toList=false:=by rw[kQ];exact decide_eq_false (jC eO)
   have l2:(az.toList==last.toList)=false:=by rw[beq_eq_false_iff_ne,Ne,fv];exact fun e=>fL eO e.symm
   have l3:(last.toList==az.toList)=false:=by rw[beq_eq_false_iff_ne,Ne,fv];exact fL eO
   have Uj:Hid (∀c,L[i+1]? = some c->dR az c.az):=fun c hc=>by obtain⟨h1,e1⟩:=List.getElem?_eq_some_iff.1 hC;obtain⟨h2,e2⟩:=List.getElem?_eq_some_iff.1 hc;have:=pairwise_iff_getElem.1 (an HK).sorted i (i+1) h1 h2 (by omega);rw[e1,e2]at this;exact this
   have ET:=aq et;have Xj:=aq Fy;have abL:=aq ID;clear et Fy hC uD wH eO je uw Cy aay Wk hR hbl2 x1 x2 hTs Gd hT hRs hBc hT2 ID HL hlen;go_wp2_with fail;refine(an ET).mono ?_;rintro e w2 ⟨rfl,cC⟩;have ri:=aq ((an HH).over cC);clear cC ET;go_wp2_with fail;refine(an Xj _).mono ?_;rintro e w3 ⟨rfl,hQ⟩;have h3:=((an ri).over hQ);have a1:=h3.aY 86 [.string az,.string val,.bool false];obtain⟨v9,w9,hr9,h9⟩:=IP (a1.perm (List.Perm.swap _ _ _)) ⟨az,val,false⟩ (by rw[length_take];omega);have k9:w9.cell? ⟨w3.heap.size,0,none⟩=some (.string az):=h9.cellAt af rfl
   rw[show(w3.alloc (.cells [.string az,.string val,.bool false].toArray 86)).heap.size=w3.heap.size+1 by simp]at hr9;have aaw:(Builtin.append_ #[38,38] 38 #[.slice p4 i c4,.slice (some ⟨w3.heap.size+1,0,none⟩) 1 1]).run prog ((w3.alloc (.cells #[.string az,.string val,.bool false] 86)).alloc (.cells #[.string az,.string val,.bool false] 86))=.ok v9 w9:=hr9;have HH9:Hid (aw w w9 [aO v9 (L.take (i+1))]):=by rw[an abL];exact h9.aD [_]
   clear hQ Xj h3 a1 h9 hr9
   go_wp2_with (at_builtin;refine bN rfl _ _ 38 38 rfl (.slice p4 i c4) (.slice (some ⟨w3.heap.size+1,0,none⟩) 1 1) rfl rfl aaw ?_)
   clear aaw
   go_quiet (fail)
   go_wp2_with fail
   go_roundg (n-i)
   case measure=>omega
   case rel=>exact⟨i+1,az,by omega,by omega,by rw[<-an HF,<-x4,Mq],rfl,(an HH9).drewN _,Uj⟩
  ·have TY:i=n:=by omega
   have h9:=an HH;have hT:bt (bB (L.drop i))=⟨#[]⟩:=by rw[drop_of_length_le (by rw[an Hn];omega)];rfl
   rw[take_of_length_le (by rw[an Hn];omega)]at h9;have H9:=aq h9;rw[hT];clear h9 HH hT;go_wp2_with fail;go_ret2;exact⟨_,rfl,an H9⟩
theorem Em {fn:Func} {p u:Tmp} (h:fn.results=#[.cell p 111,.tmp u]) (tmps:Array Value) (w:World) (g:Nat) (a b c:Value) {v:Value}
 (hp:tmps.getD p undef=.pointer (some ⟨g,0,none⟩)) (AW:tmps.getD u undef=v) (hg:w.heap[g]? = some (.cells #[a,b,c] 111 (0,0))):
 (results fn tmps).run prog w=.ok (.tuple #[.agg #[a,b,c],v]) w:=by
 have hr:=run_loadVar_row (P:=prog) w g 111 111 #[a,b,c] (0,0) _ hg underlying111 rfl (by kernel_rfl);rw[Array.getD_eq_getD_getElem?]at hp AW;simp only[results,h];simp[Sem.run_bind,Result.andThen,hp,AW,asAddr,hr]
theorem IW (aH bytes f1:Nat):∃z,eF (iJ aH bytes f1)=kn++(dw aH 1++(dw bytes 2++(dw f1 4++z))):=⟨List.replicate (140-(iJ aH bytes f1).length) 0,by simp[eF,iJ]⟩
theorem Jj (r:List UInt8):Lib.hasPrefix (kn++r) kn=true/\Lib.trimPrefix (kn++r) kn=r:=by
 constructor
 ·simp[Lib.hasPrefix,kn]
 ·simp[Lib.trimPrefix,Lib.hasPrefix,kn]
theorem Av {w0 w:World} {db:Nat} {d:DK} {l2:List aI} (h:aE w0 w db d l2) (ju:d.down=false) (hl:104<=d.aW.length) (aH bytes f1:Nat) (hh:aH<=1) (hb:bytes<=6160) (hf:f1<=1000000) (h0:d.aW.getD 0 []=eF (iJ aH bytes f1)):
 Calls prog 53 #[.pointer (some ⟨db,0,none⟩)] w fun e w'=>e=.returned (.tuple #[.agg #[.int .i64 aH,.int .i64 bytes,.int .i64 ((f1:Int)+1)],.nilIface])/\Below w.heap.size w w':=by
 obtain⟨B,hB⟩:=aa w.heap.size;have yr:aE w0 (w.alloc (.cells #[.int .i64 0,.int .i64 0,.int .i64 0] 111)) db d (.cell B 111 [.int .i64 0,.int .i64 0,.int .i64 0]::l2):=by rw[<-hB];exact h.aY 111 [.int .i64 0,.int .i64 0,.int .i64 0]
 have er:=ue w0 _ db d _ yr 0;unfold vX at er;have A6:d.has 0=true:=by simp[DK.has];omega
 have e1:d.xX 0=none:=by unfold DK.xX;rw[ju,A6];rfl
 obtain⟨z,hz⟩:=IW aH bytes f1
 have fD:z.length<=140:=by have:=rJ (s:=iJ aH bytes f1) (by simp[iJ,kn,bR]);rw[hz]at this;simp only[length_append,bR]at this;omega
 have e2:(⟨(d.xY 0).toArray⟩:ByteArray)=bt (kn++(dw aH 1++(dw bytes 2++(dw f1 4++z)))):=by unfold DK.xY;rw[ju,A6];simp only[Bool.false_or,Bool.not_true,Bool.false_eq_true,if_false];rw[show(0:Int).toNat=0 from rfl,h0,hz];rfl
 rw[e1,e2]at er;simp only[bH]at er;have ec:=fun wx=>Tryz.strings_CutPrefix (bt (kn++(dw aH 1++(dw bytes 2++(dw f1 4++z))))) ⟨#[106,111,98,99,97,115,101,32,115,116,111,114,101,10]⟩ wx
 have Mx:(⟨#[106,111,98,99,97,115,101,32,115,116,111,114,101,10]⟩:ByteArray).data.toList=kn:=rfl;rw[fK,Mx,(Jj _).1,(Jj _).2]at ec;have es:=fun wx hx=>jJ w0 wx db d (.cell B 111 [.int .i64 0,.int .i64 0,.int .i64 0]::l2) hx
 obtain⟨n,hn⟩:=aa d.aW.length;rw[hn]at es hl;have y1:=vM (dw aH 1) (dw bytes 2++(dw f1 4++z));have y2:=sZ (dw aH 1) (dw bytes 2++(dw f1 4++z));have y3:=vM (dw bytes 2) (dw f1 4++z);have y4:=sZ (dw bytes 2) (dw f1 4++z);have y5:=vM (dw f1 4) z;have y6:=sZ (dw f1 4) z;rw[bR]at y1 y2 y3 y4 y5 y6;have t1:=fun wx=>qb (bt (dw aH 1++(dw bytes 2++(dw f1 4++z)))) 1 (by decide) (by rw[cB];simp[bR]) (by rw[cB];simp[bR];omega) wx
 have t2:=fun wx=>qb (bt (dw bytes 2++(dw f1 4++z))) 2 (by decide) (by rw[cB];simp[bR]) (by rw[cB];simp[bR];omega) wx
 have t4:=fun wx=>qb (bt (dw f1 4++z)) 4 (by decide) (by rw[cB];simp[bR]) (by rw[cB];simp[bR];omega) wx
 rw[y1,y2,fK,pj 1 aH (by omega)]at t1;rw[y3,y4,fK,pj 2 bytes (by omega)]at t2;rw[y5,y6,fK,pj 4 f1 (by omega)]at t4;obtain⟨S0,xo⟩:∃S,bt (kn++(dw aH 1++(dw bytes 2++(dw f1 4++z))))=S:=⟨_,rfl⟩;have abk:(⟨(dw aH 1++(dw bytes 2++(dw f1 4++z))).toArray⟩:ByteArray)=bt (dw aH 1++(dw bytes 2++(dw f1 4++z))):=rfl;rw[abk]at ec;obtain⟨S1,hS1⟩:∃S,bt (dw aH 1++(dw bytes 2++(dw f1 4++z)))=S:=⟨_,rfl⟩;obtain⟨S2,hS2⟩:∃S,bt (dw bytes 2++(dw f1 4++z))=S:=⟨_,rfl⟩
 obtain⟨S4,hS4⟩:∃S,bt (dw f1 4++z)=S:=⟨_,rfl⟩;obtain⟨S5,hS5⟩:∃S,bt z=S:=⟨_,rfl⟩;rw[xo]at er;rw[xo,hS1]at ec;rw[hS1,hS2]at t1;rw[hS2,hS4]at t2;rw[hS4,hS5]at t4;have ER:=aq er;have EC:=aq ec;have ES:=aq es;have T1:=aq t1;have T2:=aq t2;have T4:=aq t4;have CM:=aq yr;have Xf:Hid (aw w (w.alloc (.cells #[.int .i64 0,.int .i64 0,.int .i64 0] 111)) [.cell B 111 [.int .i64 0,.int .i64 0,.int .i64 0]]):=by rw[<-hB];exact(aw.init w).aY 111 [.int .i64 0,.int .i64 0,.int .i64 0]
 have XY:¬(n:Int)<104:=by omega
 have hhz:¬(1:Int)<(aH:Int):=by omega
 have hbz:¬(6160:Int)<(bytes:Int):=by omega
 obtain⟨w1,iD⟩:=aa (w.alloc (.cells #[.int .i64 0,.int .i64 0,.int .i64 0] 111));rw[iD]at CM Xf ER;clear er ec es t1 t2 t4 yr h ju h0 e1 e2 A6 hz fD Mx y1 y2 y3 y4 y5 y6 xo hS1 hS2 hS4 hS5 abk hn;go_enter func53,ntmps53;go_wp2_with fail;refine(an ER).mono ?_;rintro e w2 ⟨rfl,rfl⟩;clear ER;go_wp2_with fail;refine(an EC _).mono ?_;rintro e w3 ⟨rfl,rfl⟩;clear EC;go_wp2_with fail;refine(an ES _ (an CM)).mono ?_;rintro e w4 ⟨rfl,rfl⟩;clear ES;go_wp2_with fail;refine(an T1 _).mono ?_;rintro e w5 ⟨rfl,qR⟩;have HB5:=aq ((an Xf).over qR)
 clear qR T1;go_wp2_with fail;refine(an T2 _).mono ?_;rintro e w6 ⟨rfl,WL⟩;have HB6:=aq ((an HB5).over WL);clear WL T2;go_wp2_with fail;refine(an T4 _).mono ?_;rintro e w7 ⟨rfl,WK⟩;have Sg:=(an HB6).over WK;have k0:w7.cell? ⟨B,0,none⟩=some (.int .i64 0):=Sg.cellAt ae rfl;have k1:w7.cell? ⟨B,1,none⟩=some (.int .i64 0):=Sg.cellAt ae rfl;have k2:w7.cell? ⟨B,2,none⟩=some (.int .i64 0):=Sg.cellAt ae rfl;have f0:w7.frozen? ⟨B,0,none⟩=false:=Sg.frozenAt ae 0;have kc:w7.frozen? ⟨B,1,none⟩=false:=Sg.frozenAt ae 1
 have f2:w7.frozen? ⟨B,2,none⟩=false:=Sg.frozenAt ae 2;have h8:=((Sg.store [] 0 (.int .i64 aH) _ rfl).store [] 1 (.int .i64 bytes) _ rfl).store [] 2 (.int .i64 ((f1:Int)+1)) _ rfl;have HB8:=aq h8;clear WK T4 Sg h8;go_wp2_with fail;exact bodyPost_ret (Em (p:=2) (u:=3) rfl _ _ B _ _ _ rfl rfl ((an HB8).cw ae)) rfl ⟨rfl,by first|exact(an HB8).below|(rw[<-hB];exact(an HB8).below)|(rw[hB];exact(an HB8).below)⟩
def LG (aW:List (List UInt8)) (aH:Nat) (T:List UInt8):Prop:=∀i,i*140<T.length->aW.getD (1+aH*44+i) []=eF ((T.drop (i*140)).take 140)
theorem piece (T:List UInt8) (i:Nat) (h:i*140<T.length) (k:Nat) (hk:k=min 140 (T.length-i*140)):(bt (eF ((T.drop (i*140)).take 140))).extract 0 k=bt ((T.drop (i*140)).take 140)/\T.take (i*140)++(T.drop (i*140)).take 140=T.take ((i+1)*140):=by
 have hl:((T.drop (i*140)).take 140).length=k:=by rw[length_take,length_drop,hk]
 refine⟨?_,?_⟩
 ·rw[dG];unfold eF;rw[<-hl,take_left];rfl
 ·rw[show(i+1)*140=i*140+140 by omega,take_add]
theorem qP {w w1 w2:World} {b:Nat} {t:TypeId} {vs:List Value} (h:aw w w1 [.cell b t vs]) (hb:w.heap.size=b) (hw:Below (b+1) w1 w2):aw w w2 [.cell b t vs]:=by
 refine⟨fun r hr=>?_,h.uniq,h.below.trans (hw.mono (by omega))⟩;rw[mem_singleton.1 hr];have hs:=h.sat _ ae;exact⟨hs.1,(hw.block b (by omega)).trans hs.2⟩
theorem Ar {w0 w:World} {db:Nat} {d:DK} {l2:List aI} (h:aE w0 w db d l2) (ju:d.down=false) (hl:104<=d.aW.length) (aH:Nat) (hh:aH<=1) (f:Int) (L:List bn) (hn:L.length<=64) (hk:Gl L) (ht:LG d.aW aH (bB L)):
 Calls prog 54 #[.pointer (some ⟨db,0,none⟩),.agg #[.int .i64 aH,.int .i64 (bB L).length,.int .i64 f]] w fun e w'=>zG L w e w':=by
 have uw:(bB L).length<=6080:=by have:=eL hk.ok;omega
 have Rt:=h.ok.aW;have Sv:=fun wx=>Ej L wx (by omega) hk
 obtain⟨T,hT⟩:=aa (bB L);simp only[hT]at ht uw Sv ⊢;obtain⟨n,nN⟩:=aa T.length;rw[nN]at uw ⊢;obtain⟨hb,hhb⟩:=aa w.heap.size;have UZ:=(aw.init w).aY 111 [.int .i64 aH,.int .i64 n,.int .i64 f];rw[hhb]at UZ;have hbi:=Lib.fresh_isBuilder 180 5 (w.alloc (.cells #[.int .i64 aH,.int .i64 n,.int .i64 f] 111));rw[show(w.alloc (.cells #[.int .i64 aH,.int .i64 n,.int .i64 f] 111)).heap.size=hb+1 by simp[hhb]]at hbi;have Xf:Hid (Lib.IsBuilder 180 5 (hb+1) (hb+1) (ez (T.take (0*140))) ((w.alloc (.cells #[.int .i64 aH,.int .i64 n,.int .i64 f] 111)).alloc (.cells #[.pointer none,.slice none 0 0] 180))):=hbi
 have HH0:Hid (aw w ((w.alloc (.cells #[.int .i64 aH,.int .i64 n,.int .i64 f] 111)).alloc (.cells #[.pointer none,.slice none 0 0] 180)) [.cell hb 111 [.int .i64 aH,.int .i64 n,.int .i64 f]]):=UZ.alloc _;have HD:=aq h;have Hdn:=aq ju;have Hl:=aq hl;have Ht:=aq ht;have abS:=aq Rt;have acu:=aq Sv;have Hn:=aq nN;have Hhb:=aq hhb;clear h ju hl hk UZ hbi ht hT Rt Sv nN;go_enter func54,ntmps54;go_wp2_with fail
 go_loopg [7] (n+2) (fun g vi wr=>∃(i:Nat),n+1-i<g/\i<=n+1/\(0<i->(i-1)*140<n)/\vi=.int .i64 i/\Hid (Lib.IsBuilder 180 5 (hb+1) (hb+1) (ez (T.take (i*140))) wr)/\Hid (aw w wr [.cell hb 111 [.int .i64 aH,.int .i64 n,.int .i64 f]]))
 case atStart=>exact⟨0,by omega,by omega,by omega,rfl,Xf,HH0⟩
 case round=>
  clear Xf HH0;obtain⟨i,hg,hi,hi2,rfl,HB,HH⟩:=hrel;have c0:wr.cell? ⟨hb,0,none⟩=some (.int .i64 aH):=(an HH).cellAt ae rfl;have c1:wr.cell? ⟨hb,1,none⟩=some (.int .i64 n):=(an HH).cellAt ae rfl;have RH:(ez (T.take (i*140))).length=min (i*140) n:=by rw[ey,length_take,an Hn]
  have Vt:=fun q=>Tryz.Builder_Len (hb+1) (hb+1) (ez (T.take (i*140))) (wr.drewN q) (iz (an HB) ((aw.init wr).drewN q).below)
  rw[RH]at Vt;have PH:=aq Vt
  by_cases gY:i*140<n
  ·have vD:min (i*140) n=i*140:=by omega
   rw[vD]at PH;have mI:((i*140:Nat):Int)<(n:Int):=by omega
   clear Vt RH;go_wp2_with fail
   go_quiet ((go_at_call 102;exact Calls.quiet_of_same (an PH _)))
   obtain⟨w1,iD⟩:=aa (wr.drewN nq);have TF:Hid (Lib.IsBuilder 180 5 (hb+1) (hb+1) (ez (T.take (i*140))) w1):=by rw[<-iD];exact iz (an HB) ((aw.init wr).drewN nq).below
   have yN:Hid (aw w w1 [.cell hb 111 [.int .i64 aH,.int .i64 n,.int .i64 f]]):=by rw[<-iD];exact(an HH).drewN nq
   rw[iD];have c0:w1.cell? ⟨hb,0,none⟩=some (.int .i64 aH):=(an yN).cellAt ae rfl;have c1:w1.cell? ⟨hb,1,none⟩=some (.int .i64 n):=(an yN).cellAt ae rfl;have e87:=xR aH hh w1;have hi44:i<44:=by omega
   have yr:=(an HD).over (an yN).below;have er:=ue w0 w1 db d l2 yr (((1+aH*44:Nat):Int)+(i:Int));unfold vX at er;have RZ:(((1+aH*44:Nat):Int)+(i:Int))=((1+aH*44+i:Nat):Int):=by omega
   have A6:d.has (((1+aH*44:Nat):Int)+(i:Int))=true:=by rw[RZ];have:=an Hl;simp only[DK.has,Bool.and_eq_true,decide_eq_true_eq];omega
   have e1:d.xX (((1+aH*44:Nat):Int)+(i:Int))=none:=by unfold DK.xX;rw[an Hdn,A6];rfl
   have hta:=an Ht i (by rw[an Hn];exact gY)
   have e2:(⟨(d.xY (((1+aH*44:Nat):Int)+(i:Int))).toArray⟩:ByteArray)=bt (eF ((T.drop (i*140)).take 140)):=by unfold DK.xY;rw[an Hdn,A6,RZ];simp only[Bool.false_or,Bool.not_true,Bool.false_eq_true,if_false,Int.toNat_natCast];rw[hta];rfl
   rw[e1,e2]at er;simp only[bH]at er;obtain⟨kk,nS⟩:∃kk,kk=min 140 (n-i*140):=⟨_,rfl⟩;obtain⟨pc1,pc2⟩:=piece T i (by rw[an Hn];exact gY) kk (by rw[an Hn];exact nS);have gP:(bt (eF ((T.drop (i*140)).take 140))).size=140:=by rw[cB,rJ (by rw[length_take];omega)]
   have ew:=fun wx (hx:Lib.IsBuilder 180 5 (hb+1) (hb+1) (ez (T.take (i*140))) wx) (hq:hb+1<=wx.heap.size)=>nV (hb+1) (hb+1) (T.take (i*140)) (bt ((T.drop (i*140)).take 140)) wx hx (by rw[cB,length_take,length_take];omega) hq
   unfold td at ew;rw[fK,pc2]at ew;obtain⟨S,hS⟩:=aa (bt (eF ((T.drop (i*140)).take 140)));rw[hS]at er pc1 gP;obtain⟨Pc,hPc⟩:∃S,bt ((T.drop (i*140)).take 140)=S:=⟨_,rfl⟩;rw[hPc]at ew pc1;have E87:=aq e87;have ER:=aq er;have EW:=aq ew;have W4:=aq nS;have rh:Hid (w1.drew.cell? ⟨hb,1,none⟩=some (.int .i64 n)):=c1;have SC:=Tryz.Builder_Len (hb+1) (hb+1) (ez (T.take (i*140))) w1.drew (iz (an TF) (aw.init w1).drew.below);rw[ey,length_take,an Hn,vD,show((i*140:Nat):Int)=(i:Int)*140 by omega]at SC
   have acv:=aq SC;have ji:(kk:Int)<=140:=by omega
   have jd:(0:Int)<=(kk:Int):=by omega
   have TW:min (140:Int) (IntKind.i64.wrap ((n:Int)-(i:Int)*140))=(kk:Int):=by rw[sE _ (by omega)];omega
   have HBd:Hid (Lib.IsBuilder 180 5 (hb+1) (hb+1) (ez (T.take (i*140))) w1.drew):=iz (an TF) (aw.init w1).drew.below;have afa:Hid (hb+1<=w1.drew.heap.size):=by have:=(an yN).UD ae;show hb+1<=w1.heap.size;omega
   have HHd:Hid (aw w w1.drew [.cell hb 111 [.int .i64 aH,.int .i64 n,.int .i64 f]]):=(an yN).drew;clear e87 er ew yr RZ A6 e1 e2 hta nS hS hPc pc2 SC PH HB HH iD vD;go_wp2_with fail;refine(an E87).mono ?_;rintro e w2 ⟨rfl,rfl⟩;clear E87;go_wp2_with fail;refine(an ER).mono ?_;rintro e w2 ⟨rfl,rfl⟩;clear ER;go_wp2_with fail
   go_region_held (fun w'=>w'.cell? ⟨hb,1,none⟩=some (.int .i64 n)) (first|exact an rh|exact an Tx) (first
    |(go_at_call 102;refine(an acv).mono ?_;rintro e w6 ⟨rfl,hw6⟩;subst hw6)
    |(go_at_call 104;refine(an EW _ ?_ ?_).mono ?_;exact an HBd;exact an afa;rintro e w7 ⟨rfl,hI7,WK⟩;have hH7:=qP (an HHd) (an Hhb) WK;have Tx:Hid (w7.cell? ⟨hb,1,none⟩=some (.int .i64 n)):=hH7.cellAt ae rfl;have HI7:=aq hI7;have PC:=aq hH7;clear hI7 WK hH7))
   all_goals
    go_wp2_with fail
    go_roundg (n+1-i)
    case measure=>omega
    case rel=>exact⟨i+1,by omega,by omega,fun _=>by simpa using gY,by simp,HI7,PC⟩
  ·have vD:min (i*140) n=n:=by omega
   rw[vD]at PH;have nN:¬(n:Int)<(n:Int):=by omega
   have Mn:T.take (i*140)=T:=take_of_length_le (by rw[an Hn];omega)
   have HBt:Hid (∀q,Lib.IsBuilder 180 5 (hb+1) (hb+1) (Lib.byteCells T) (wr.drewN q)):=fun q=>by have:=iz (an HB) ((aw.init wr).drewN q).below;rw[Mn,CV]at this;exact this
   clear Vt RH vD Mn HB;go_wp2_with fail
   go_quiet ((go_at_call 102;exact Calls.quiet_of_same (an PH _)))
   have yN:=aq ((an HH).drewN nq);have ad0:hb+1<=(wr.drewN nq).heap.size:=by have:=(an yN).UD ae;omega
   have es:=Tryz.Builder_String_any (hb+1) (hb+1) T (wr.drewN nq) (an HBt nq) ad0;have es':Calls prog 106 #[.pointer (some ⟨hb+1,0,none⟩)] (wr.drewN nq) fun e w'=>e=.returned (.string (bt T))/\Below (hb+1) (wr.drewN nq) w':=es
   have ES:=aq es';clear es es' PH c0 c1;go_wp2_with fail;refine(an ES).mono ?_;rintro e w2 ⟨rfl,cC⟩;have ri:=aq (qP (an yN) (an Hhb) cC);clear cC ES;have e9:=an acu w2;unfold zG at e9;have E9:=aq e9;clear e9;go_wp2_with fail;refine(an E9).mono ?_;rintro e w3 ⟨v,rfl,h3⟩;have H3:=aq (((an ri).aD []).join h3);obtain⟨pv,cv,hv,_⟩:=cI (h3.rowAt ae);subst hv;clear h3 E9;go_wp2_with fail;go_ret2;exact⟨_,rfl,by simpa using an H3⟩
def fe (sb db aH:Nat) (v:Value) (lb:Nat):aI:=.cell sb 122 [.pointer (some ⟨db,0,none⟩),.int .i64 aH,v,.pointer (some ⟨lb,0,none⟩)]
def mi (L:List bn) (D:List (List bn)):List bn:=D.foldl cT L
theorem uI (L:List bn) (D:List (List bn)) (x:List bn):mi L (D++[x])=cT (mi L D) x:=by simp[mi]
theorem vK {L:List bn} (h:bf L):∀D:List (List bn),bf (mi L D)
 |[]=>h
 |x::D=>vK (oW h x) D
theorem mY {w0 w:World} {rs:List aI} (H:aw w0 w rs) {v:Value} {L:List bn} (hm:aO v L∈rs):Shaped v:=by
 rcases(H.rowAt hm).2 with⟨h,_⟩|⟨g,c,_,h,_⟩
 ·exact .inl h
 ·exact .inr ⟨_,_,_,h⟩
theorem vU (va vb:Value) (A B:List bn) (w:World) (ha:F7 w va A) (hb:F7 w vb B) (Dj:Shaped va) (Cz:Shaped vb) (hs:bf A) (JY:A.length<=75) (Gd:B.length<=20):
 Calls prog 56 #[va,vb] w fun e w'=>∃v',e=.returned v'/\aw w w' [aO v' (cT A B)]:=by
 have h:=Jw va A.length _ vb B.length _ w ha hb Dj Cz (by rw[ko];exact hs) JY Gd;rw[ko,ko]at h;exact h
def JE (w0:World) (db:Nat) (d:DK) (l2:List aI) (aH first av:Nat) (L:List bn) (e:Ending) (w':World):Prop:=
 ∃sb lb v,e=.returned (.tuple #[.pointer (some ⟨sb,0,none⟩),.nilIface])/\aE w0 w' db d (fe sb db aH v lb::aO v L::eN lb db 90 (d.aW.length-90) first av::l2)
theorem Hj {w0 w:World} {db:Nat} {d:DK} {l2:List aI} (h:aE w0 w db d l2) (ju:d.down=false) (hl:104<=d.aW.length) (aH f1:Nat) (hh:aH<=1) (hf:f1<=900000) (L:List bn) (hn:L.length<=64) (hk:Gl L) (h0:d.aW.getD 0 []=eF (iJ aH (bB L).length f1)) (ht:LG d.aW aH (bB L))
 (D:List (List bn)) (av:Nat) (hD:(eY d 90 (d.aW.length-90) (f1+1)).deeds=D) (hu:(eY d 90 (d.aW.length-90) (f1+1)).av=av) (zb:∀x∈D,x.length<=14) (h64:∀k,(mi L (D.take k)).length<=64):
 Calls prog 23 #[.pointer (some ⟨db,0,none⟩)] w fun e w'=>JE w0 db d l2 aH (f1+1) av (mi L D) e w':=by
 have uw:=eL hk.ok;have e72:=Av h ju hl aH (bB L).length f1 hh (by omega) (by omega) h0;have Yp:=fun(wx:World) (l3:List aI) (hx:aE w0 wx db d l3)=>Ar hx ju hl aH hh ((f1:Int)+1) L hn hk ht
 have WU:=fun(wx:World) (l3:List aI) (hx:aE w0 wx db d l3)=>oC hx ju (f1+1) (by omega) (by omega) (by omega)
 unfold th at WU;rw[hD,hu]at WU;rw[show((f1+1:Nat):Int)=(f1:Int)+1 by omega]at WU;obtain⟨tl,Cy⟩:=aa ((bB L).length);rw[Cy]at e72;simp only[Cy]at Yp
 have CA:D.length<=200:=by have hp:=C5 (gE d.aW 90) (f1+1) (d.aW.length-90);have h1:=hp.2.len;unfold eY at hD;rw[hD]at h1;have:=h.ok.ix;omega
 have E72:=aq e72;have E73:=aq Yp;have E74:=aq WU;have HD0:=aq h;have HKs:=aq hk.sorted;have Gn:=aq zb;have H64:=aq h64;have qZ:d.aW.length-90=d.aW.length-90:=rfl;obtain⟨mm,qZ⟩:=aa (d.aW.length-90);rw[qZ]at E74;unfold JE;rw[qZ];clear e72 Yp WU h ju hl hk h0 ht hD hu zb h64 uw Cy qZ;go_enter func23,ntmps23;go_wp2_with fail;refine(an E72).mono ?_;rintro e w1 ⟨rfl,dJ⟩;have yr:=(an HD0).over dJ;have hDa:=yr.aY 111 [.int .i64 aH,.int .i64 tl,.int .i64 ((f1:Int)+1)];have Yp:=an E73 _ _ hDa
 unfold zG at Yp;have acy:=aq Yp;have HDa:=aq hDa;clear Yp dJ yr hDa E72 E73;go_wp2_with fail;refine(an acy).mono ?_;rintro e w2 ⟨v,rfl,h2⟩;have Cg:=(an HDa).join h2;obtain⟨pv,cv,hv,_⟩:=cI (h2.rowAt ae);subst hv;have WU:=an E74 w2 _ Cg;have acx:=aq WU;have c2:w2.cell? ⟨w1.heap.size,2,none⟩=some (.int .i64 ((f1:Int)+1)):=Cg.cellAt af rfl;clear WU E74 acy HDa h2 Cg;go_wp2_with fail;refine(an acx).mono ?_;rintro e w3 ⟨lb,v8,P8,rfl,hP8,hD3⟩;obtain⟨p8,c8,hv8,_⟩:=cI (hD3.hold.rowAt ae)
 obtain⟨m8,hm8⟩:∃m,P8.length=m:=⟨_,rfl⟩;rw[hm8]at hv8;subst hv8;have hml:m8=D.length:=by rw[<-hm8,<-hP8,length_map]
 obtain⟨R,hR⟩:=aa (eJ (.slice p8 m8 c8) P8++(eN lb db 90 mm (f1+1) av::.cell w1.heap.size 111 [.int .i64 aH,.int .i64 tl,.int .i64 ((f1:Int)+1)]::l2))
 have Cj:Hid (aE w0 w3 db d (aO (.slice pv L.length cv) (mi L (D.take 0))::R)):=by rw[<-hR];refine hD3.perm ?_;show(aO (.slice pv L.length cv) L::_).Perm _;have:=(perm_middle (a:=aO (.slice pv L.length cv) L) (l₁:=eJ (.slice p8 m8 c8) P8++[eN lb db 90 mm (f1+1) av]) (l₂:=.cell w1.heap.size 111 [.int .i64 aH,.int .i64 tl,.int .i64 ((f1:Int)+1)]::l2)).symm;simpa using this
 have HDs:Hid (∀wx l,aw w0 wx (l++R)->DsP wx (.slice p8 m8 c8) P8/\(∀p∈P8,Shaped p.1)):=fun wx l hx=>by
  have hm:∀x∈eJ (.slice p8 m8 c8) P8,x∈l++R:=fun x hx=>by rw[<-hR];simp[hx]
  exact⟨Fz hx hm,fun p hp=>mY hx (hm _ (.tail _ (mem_map.2 ⟨p,hp,rfl⟩)))⟩
 have HC0:Hid (∀wx l,aw w0 wx (l++R)->wx.cell? ⟨w1.heap.size,0,none⟩=some (.int .i64 aH)):=fun wx l hx=>hx.cellAt (t:=111) (vs:=[.int .i64 aH,.int .i64 tl,.int .i64 ((f1:Int)+1)]) (by rw[<-hR];simp) rfl
 have HP8:=aq hP8;have Hm8:=aq hm8;have HR:=aq hR;have agq:m8<=200:=by omega
 have Hml:=aq hml;clear hD3 hP8 hm8 hR acx c2 hml;go_wp2_with fail
 go_loopg [6,10,41] (m8+1) (fun g v6 v10 vi wr=>∃(i:Nat),m8-i<g/\i<=m8/\vi=.int .i64 i/\Hid (aE w0 wr db d (aO v6 (mi L (D.take i))::R)))
 case atStart=>exact⟨0,by omega,by omega,rfl,Cj⟩
 case round=>
  clear Cj;obtain⟨i,hg,hi,rfl,HD⟩:=hrel
  by_cases gY:i<m8
  ·have mI:(i:Int)<(m8:Int):=by omega
   obtain⟨hds,hshp⟩:=an HDs wr [_] (an HD).hold
   rcases hds with⟨h0,_⟩|⟨b,off,c,mv,_,hbW,gZ⟩
   ·have:=an Hm8;rw[h0]at this;simp at this;omega
   injection mv with e1 e2 e3;subst e1 e3;clear e2;obtain⟨x,hx⟩:∃x,P8[i]? = some x:=⟨_,getElem?_eq_getElem (by rw[an Hm8];exact gY)⟩;obtain⟨q0,mw⟩:=gZ i x hx;have hxD:D[i]? = some x.2:=by rw[<-an HP8,getElem?_map,hx];rfl
   have adO:=an Gn x.2 (mem_of_getElem? hxD);have RL:=an H64 i;have hsx:=hshp x (mem_of_getElem? hx);have hs6:=mY (an HD).hold (v:=u6) (L:=mi L (D.take i)) ae;have hc6:=ke (an HD).hold (v:=u6) (L:=mi L (D.take i)) ae;have ea:=vU u6 x.1 (mi L (D.take i)) x.2 wr hc6 mw hs6 hsx (vK (an HKs) _) (by omega) (by omega);have sU:mi L (D.take (i+1))=cT (mi L (D.take i)) x.2:=by rw[take_add_one,hxD,<-uI];rfl
   rw[<-sU]at ea;obtain⟨xv,hxv⟩:=aa x.1;rw[hxv]at q0 ea;obtain⟨p6,c6,hv6,_⟩:=cI ((an HD).hold.rowAt ae);have EA:=aq ea;clear ea gZ mw hx hxD adO RL hsx hs6 hc6 sU hxv hshp hv6;go_wp2_with fail;refine(an EA).mono ?_;rintro e w5 ⟨v5,rfl,h5⟩;have PE:=aq ((((an HD).join h5).perm (List.Perm.swap _ _ _)).eM [_]);clear h5 EA;go_wp2_with fail
   go_roundg (m8-i)
   case measure=>omega
   case rel=>exact⟨i+1,by omega,by omega,by simp,PE⟩
  ·have mI:¬(i:Int)<(m8:Int):=by omega
   have Cf:=an HD;have RL:=an H64 i;rw[take_of_length_le (by rw[<-an Hml];omega)]at Cf RL;obtain⟨p6,c6,hv6,_⟩:=cI (Cf.hold.rowAt ae);obtain⟨Lf,Vh⟩:=aa (mi L D);rw[Vh]at Cf RL hv6;subst hv6;have hz:¬(64:Int)<(Lf.length:Int):=by omega
   have c0:=an HC0 wr [_] Cf.hold;have Se:=Cf.aY 122 [.pointer (some ⟨db,0,none⟩),.int .i64 aH,.slice p6 Lf.length c6,.pointer (some ⟨lb,0,none⟩)]
   have HDf:Hid (aE w0 (wr.alloc (.cells #[.pointer (some ⟨db,0,none⟩),.int .i64 aH,.slice p6 Lf.length c6,.pointer (some ⟨lb,0,none⟩)] 122)) db d (fe wr.heap.size db aH (.slice p6 Lf.length c6) lb::aO (.slice p6 Lf.length c6) Lf::eN lb db 90 mm (f1+1) av::l2)):=by
    have tN:=Se.perm (l3:=(eJ (.slice p8 m8 c8) P8++[aI.cell w1.heap.size 111 [.int .i64 aH,.int .i64 tl,.int .i64 ((f1:Int)+1)]])++(fe wr.heap.size db aH (.slice p6 Lf.length c6) lb::aO (.slice p6 Lf.length c6) Lf::eN lb db 90 mm (f1+1) av::l2)) (by
     rw[<-an HR]
     show List.Perm _ (fe wr.heap.size db aH (.slice p6 Lf.length c6) lb::aO (.slice p6 Lf.length c6) Lf::_)
     have Dm:((eJ (.slice p8 m8 c8) P8++[aI.cell w1.heap.size 111 [.int .i64 aH,.int .i64 tl,.int .i64 ((f1:Int)+1)]])++(fe wr.heap.size db aH (.slice p6 Lf.length c6) lb::aO (.slice p6 Lf.length c6) Lf::eN lb db 90 mm (f1+1) av::l2)).Perm (fe wr.heap.size db aH (.slice p6 Lf.length c6) lb::aO (.slice p6 Lf.length c6) Lf::((eJ (.slice p8 m8 c8) P8++[aI.cell w1.heap.size 111 [.int .i64 aH,.int .i64 tl,.int .i64 ((f1:Int)+1)]])++(eN lb db 90 mm (f1+1) av::l2))):=
      perm_middle.trans (List.Perm.cons _ perm_middle)
     refine Dm.trans (List.Perm.cons _ (List.Perm.cons _ ?_));rw[append_assoc];exact List.Perm.append_left _ (List.Perm.swap _ _ _))
    exact tN.eM _
   have HLf:=aq Vh;clear Cf Se RL HD Vh;go_wp2_with fail;go_ret2;rw[an HLf];exact⟨_,rfl,lb,_,an HDf⟩
end Go.Proofs.YtphcnmlbieokoaaGreatDoor.S
