import Derived.Test.YtphcnmlbieokoaaGreatDoorC11
set_option maxRecDepth 100000
set_option maxHeartbeats 16000000
set_option linter.unusedVariables false
set_option linter.unusedSimpArgs false
namespace Go.Proofs.YtphcnmlbieokoaaGreatDoor.S
open Go.RowKit Go.Lib List Go.Proofs.Tryz
theorem GR {w0 w:World} {db sb aH lb aF first av:Nat} {v:Value} {d:DK} {L:List bn} {l2:List aI} (h:aE w0 w db d (fe sb db aH v lb::aO v L::eN lb db 90 aF first av::l2)) (hu:av<=aF) (hm:aF<=1000):
 Calls prog 114 #[.pointer (some ⟨sb,0,none⟩)] w fun e w'=>e=.returned (.int .i64 ((aF-av:Nat):Int))/\∃n,w'=w.drewN n:=by
 have k3:w.cell? ⟨sb,3,none⟩=some (.pointer (some ⟨lb,0,none⟩)):=h.cellAt ae rfl;have q2:w.cell? ⟨lb,2,none⟩=some (.int .i64 aF):=h.cellAt ag rfl;have q4:w.cell? ⟨lb,4,none⟩=some (.int .i64 av):=h.cellAt ag rfl;have e42:=Ao lb aF av w hu (by omega) q2 q4;have E42:=aq e42;clear e42 h;go_enter func114,ntmps114;go_wp2_with fail;refine(an E42).mono ?_;rintro e w1 ⟨rfl,n1,rfl⟩;go_wp2_with fail;go_ret;exact⟨rfl,n1,rfl⟩
theorem GP {w0 w:World} {db sb aH lb:Nat} {v:Value} {d:DK} {L:List bn} {l2:List aI} (h:aE w0 w db d (fe sb db aH v lb::aO v L::l2)) (hn:L.length<=100):
 Calls prog 24 #[.pointer (some ⟨sb,0,none⟩)] w fun e w'=>∃v',e=.returned v'/\aw w w' [aO v' L]:=by
 have k2:w.cell? ⟨sb,2,none⟩=some v:=h.cellAt ae rfl;have hc:=ke h.hold (v:=v) (L:=L) af;have hs:=mY h.hold (v:=v) (L:=L) af;have ec:=yE v L.length _ w hc hs hn;rw[ko]at ec;obtain⟨pv,cv,hv⟩:=iP.slice hc;have EC:=aq ec;clear ec h hc hs;subst hv;go_enter func24,ntmps24;go_wp2_with fail;refine(an EC).mono ?_;rintro e w1 ⟨v',rfl,h1⟩;have H1:=aq h1;clear h1 EC;go_wp2_with fail;go_ret;exact⟨_,rfl,an H1⟩
theorem C3 {d:DK} {fr av aF:Nat} {s0:List UInt8} {r:List (List UInt8)} (hb:xH d fr av aF s0 r):
 ((eT d fr av aF s0 r).1=none/\mA (eT d fr av aF s0 r).2/\Ti d.aW fr av aF (s0::r) (eT d fr av aF s0 r).2.aW/\(d.left<0->(eT d fr av aF s0 r).2.left=d.left))∨
 ((eT d fr av aF s0 r).1=some 10/\¬d.left<0/\(eT d fr av aF s0 r).2.aW.length=d.aW.length/\(mA d->∀k,(dC k 0 (eT d fr av aF s0 r).2.wr (eT d fr av aF s0 r).2.kept=d.aW∨Tg d.aW fr av aF (dC k 0 (eT d fr av aF s0 r).2.wr (eT d fr av aF s0 r).2.kept))∨Ti d.aW fr av aF (s0::r) (dC k 0 (eT d fr av aF s0 r).2.wr (eT d fr av aF s0 r).2.kept))):=by
 obtain⟨hd,hlen,hm,hs0,hr⟩:=hb;obtain⟨q1,q2⟩:=wM av aF r hm;obtain⟨e1,d1,h1⟩:∃e1 d1,dy [[]] d (fr+av)=(e1,d1):=⟨_,_,rfl⟩;have c1:=mc [[]] d (fr+av) hd (by simp only[length_singleton];omega) (by intro s hs;rw[mem_singleton.1 hs];simp);rw[h1]at c1;unfold eT;rw[h1]
 rcases c1 with⟨he,g1⟩|⟨he,g1⟩
 ·simp only at he;subst he;simp only;have rY:d1.aW.length=d.aW.length:=by rw[g1.aW,eS]
  obtain⟨e2,d2,h2⟩:∃e2 d2,dy (gM av aF r) d1 (fr+(av+1))=(e2,d2):=⟨_,_,rfl⟩;have c2:=mc (gM av aF r) d1 (fr+(av+1)) g1.down (by rw[rY];omega) (GS _ _ _ hr);rw[h2]at c2;rw[h2]
  rcases c2 with⟨he,g2⟩|⟨he,g2⟩
  ·simp only at he;subst he;simp only;have tm:d2.aW.length=d.aW.length:=by rw[g2.aW,eS,rY]
   obtain⟨e3,d3,h3⟩:∃e3 d3,dy [s0] d2 (fr+av)=(e3,d3):=⟨_,_,rfl⟩;have c3:=mc [s0] d2 (fr+av) g2.down (by simp only[length_singleton];omega) (by intro s hs;rw[mem_singleton.1 hs];exact hs0);rw[h3]at c3;rw[h3];have qC:=Xy (s0:=s0) hlen hm;have hold:=UB hlen hm;simp only at g1 g2;rw[<-g1.aW]at qC hold;rw[<-g2.aW]at qC hold
   rcases c3 with⟨he,g3⟩|⟨he,g3⟩
   ·simp only at he g3;refine .inl ⟨he,g3.steady,by rw[g3.aW];exact qC,fun hl=>?_⟩;have l1:=g1.left hl;have l2:=g2.left (by rw[l1];exact hl);simp only;rw[g3.left (by rw[l2,l1];exact hl),l2,l1]
   ·simp only at he g3;refine .inr ⟨he,fun hl=>?_,by rw[g3.len,tm],fun _ k=>?_⟩
    ·have l1:=g1.left hl;have l2:=g2.left (by rw[l1];exact hl);exact g3.left (by rw[l2,l1];exact hl)
    ·obtain⟨m,hm⟩:=g3.wr;simp only;rw[hm,g3.kept,g2.wr,nil_append,g2.steady.kept]
     cases m with
     |zero=>exact .inl (.inr hold)
     |succ m=>
      rw[take_succ_cons,take_nil,uR]
      rcases wY k (fr+av) (eF s0) d2.aW with h|h
      ·refine .inr ?_
       show Ti _ _ _ _ _ (dC k 0 [(fr+av,eF s0)] d2.aW);rw[h];exact qC
      ·refine .inl (.inr ?_)
       show Tg _ _ _ _ (dC k 0 [(fr+av,eF s0)] d2.aW);rw[h];exact hold
  ·simp only at he g2;subst he;simp only;refine .inr ⟨trivial,fun hl=>g2.left (by rw[g1.left hl];exact hl),by rw[g2.len,rY],fun _ k=>.inl (.inr ?_)⟩;obtain⟨m,hm⟩:=g2.wr;rw[hm,g2.kept,g1.wr,nil_append,g1.steady.kept];have Zl:∀x,x<=fr+av->(dC k 0 (LZ (fr+(av+1)) ((gM av aF r).take m)) d1.aW).getD x []=d1.aW.getD x []:=fun x hx=>sR k _ _ _ x fun y hy=>by have:=Xl hy;omega
   refine⟨by rw[kr,rY],fun j hj=>?_,fun hs=>?_⟩
   ·rw[Zl _ (by omega),g1.aW,iE _ _ _ _ (by simp;omega)]
   ·rw[Zl _ (by omega),g1.aW];have:=qf [[]] d.aW (fr+av) 0 [] (by simp only[length_singleton];omega) rfl;rw[Nat.add_zero]at this;rw[this,vl]
 ·simp only at he g1;subst he;simp only;refine .inr ⟨trivial,g1.left,g1.len,fun gz k=>.inl ?_⟩;obtain⟨m,hm⟩:=g1.wr;rw[hm,g1.kept,gz.wr,nil_append,gz.kept]
  cases m with
  |zero=>exact .inl rfl
  |succ m=>
   rw[take_succ_cons,take_nil,uR]
   rcases wY k (fr+av) (eF []) d.aW with h|h
   ·refine .inr ?_
    show Tg _ _ _ _ (dC k 0 [(fr+av,eF [])] d.aW);rw[h];refine⟨by simp,fun j hj=>?_,fun hs=>?_⟩
    ·rw[List.getD,List.getD,getElem?_set_ne (by omega)]
    ·rw[List.getD,getElem?_set_self (by omega),vl];rfl
   ·exact .inl h
theorem Bj {get get':Nat->ByteArray} {first:Nat}:∀(k i:Nat) (st:RS),(∀j,i<=j->j<i+k->get j=get' j)->r8 get first k i st=r8 get' first k i st
 | 0,i,st,h=>rfl
 |k+1,i,st,h=>by
  rw[r8,r8,h i (by omega) (by omega)]
  cases gD (get' i) (first+i) i st with
  |none=>rfl
  |some s1=>exact Bj k (i+1) s1 fun j h1 h2=>h j (by omega) (by omega)
structure sC (d:DK) (fr aF first:Nat) (D:List (List bn)) (av:Nat):Prop where
 steady:mA d
 len:fr+aF<=d.aW.length
 deeds:(eY d fr aF first).deeds=D
 av:(eY d fr aF first).av=av
theorem sC.pre {d:DK} {fr aF first av:Nat} {D:List (List bn)} (h:sC d fr aF first D av):av<=aF/\JD (gE d.aW fr) first av D:=by
 have:=C5 (gE d.aW fr) first aF
 have h1:=h.deeds;have h2:=h.av;unfold eY at h1 h2;rw[h1,h2]at this;exact this
theorem yL.rd {d:DK} {fr aF first av:Nat} {D:List (List bn)} (h:yL d fr aF first D av):sC d fr aF first D av:=⟨h.steady,h.len,by rw[h.read],by rw[h.read]⟩
theorem xW {d d':DK} {fr aF first:Nat} (h:∀j,j<aF->d'.aW.getD (fr+j) []=d.aW.getD (fr+j) []):eY d' fr aF first=eY d fr aF first:=
 Bj aF 0 B5 fun j _ hj=>by unfold gE;rw[h j (by omega)]
theorem Xu {d d':DK} {fr aF first av:Nat} {D:List (List bn)} (h:sC d fr aF first D av) (hs:mA d') (ho:d'.aW=d.aW∨Tg d.aW fr av aF d'.aW):sC d' fr aF first D av:=by
 rcases ho with ho|ho
 ·have e:eY d' fr aF first=eY d fr aF first:=by unfold eY;rw[ho]
  exact⟨hs,by rw[ho];exact h.len,by rw[e];exact h.deeds,by rw[e];exact h.av⟩
 ·obtain⟨hle,hp⟩:=h.pre;have og:yL d' fr aF first D av:=⟨hs,by rw[ho.len];exact h.len,hp.congr fun j hj=>by unfold gE;rw[ho.pre j hj],hle,ho.stop⟩
  exact og.rd
theorem Pq {d:DK} {fr aF first av:Nat} {D:List (List bn)} (h:sC d fr aF first D av) (hf:first+aF<4294967296) (l:List bn):
 (∃k,k≠10/\lO d fr aF first av l=(some k,d,av))∨
 (∃d',lO d fr aF first av l=(none,d',av+(l.length+1))/\(d.left<0->d'.left=d.left)/\d'.aW.length=d.aW.length/\sC d' fr aF first (D++[l]) (av+(l.length+1)))∨
 (∃d',lO d fr aF first av l=(some 10,d',av)/\¬d.left<0/\∀k,(d'.again k).aW.length=d.aW.length/\(sC (d'.again k) fr aF first D av∨sC (d'.again k) fr aF first (D++[l]) (av+(l.length+1)))):=by
 obtain⟨hle,hp⟩:=h.pre
 by_cases pX:12<l.length
 ·exact .inl ⟨2,by decide,DV pX⟩
 by_cases gr:aF-av<l.length+1
 ·exact .inl ⟨9,by decide,DW pX gr⟩
 cases IU:dQ l with
 |some k=>exact .inl ⟨k,fun e=>Bq l (by rw[IU,e]),BO pX gr IU⟩
 |none=>
  have hc:=uK IU;obtain⟨s0,r,hdd,XS⟩:=xy (first+av) l;have gX:=yB (n:=first+av) hc;rw[hdd]at gX;have hb:xH d fr av aF s0 r:=⟨h.steady.down,h.len,by omega,gX s0 (by simp),fun s hs=>gX s (by simp[hs])⟩
  rcases C3 hb with⟨h1,h2,h3,h4⟩|⟨h1,h2,h3,h4⟩
  ·have xj:eT d fr av aF s0 r=(none,(eT d fr av aF s0 r).2):=by rw[<-h1]
   refine .inr (.inl ⟨_,xF pX gr IU hdd xj,h4,h3.len,?_⟩);exact(QS h.len hp hc (by omega) hf h2 (by rw[hdd];exact h3)).rd
  ·have xj:eT d fr av aF s0 r=(some 10,(eT d fr av aF s0 r).2):=by rw[<-h1]
   refine .inr (.inr ⟨_,xE pX gr IU hdd xj,h2,fun k=>?_⟩)
   rcases h4 h.steady k with ho|hn
   ·refine⟨?_,.inl (Xu h ⟨rfl,rfl,rfl⟩ ho)⟩
    rcases ho with ho|ho
    ·exact congrArg List.length ho
    ·exact ho.len
   ·exact⟨hn.len,.inr (QS h.len hp hc (by omega) hf ⟨rfl,rfl,rfl⟩ (by rw[hdd];exact hn)).rd⟩
def nG (T:List UInt8):List (List UInt8):=(List.range ((T.length+139) / 140)).map fun i=>(T.drop (i*140)).take 140
theorem oo (T:List UInt8):(nG T).length=(T.length+139) / 140:=by simp[nG]
theorem Jl {T:List UInt8} {i:Nat} (h:i*140<T.length):(nG T)[i]? = some ((T.drop (i*140)).take 140):=by
 unfold nG;rw[getElem?_map,getElem?_range (by omega)];rfl
theorem Ln (T:List UInt8):∀s∈nG T,s.length<=140:=by
 intro s hs;obtain⟨i,_,rfl⟩:=mem_map.1 hs;rw[length_take];omega
def ib (d:DK) (aH:Nat) (T:List UInt8) (f1:Nat):Option Int×DK:=match dy (nG T) d (1+aH*44)with
 |(some e,d1)=>(some e,d1)
 |(none,d1)=>dy [iJ aH T.length f1] d1 0
structure dd (d:DK) (aH f1:Nat) (L:List bn) (D:List (List bn)) (av:Nat):Prop where
 steady:mA d
 len:104<=d.aW.length
 hf:aH<=1
 head:d.aW.getD 0 []=eF (iJ aH (bB L).length f1)
 aL:LG d.aW aH (bB L)
 PO:Gl L
 ix:L.length<=64
 log:sC d 90 (d.aW.length-90) (f1+1) D av
theorem dd.agree {d d':DK} {aH f1 av:Nat} {L:List bn} {D:List (List bn)} (h:dd d aH f1 L D av) (hs:mA d') (hl:d'.aW.length=d.aW.length) (ha:∀x,(x=0∨(1+aH*44<=x/\x<1+aH*44+44)∨90<=x)->d'.aW.getD x []=d.aW.getD x []):dd d' aH f1 L D av:=by
 have uw:=eL h.PO.ok;have tn:=h.ix;refine⟨hs,by rw[hl];exact h.len,h.hf,by rw[ha 0 (.inl rfl)];exact h.head,fun i hi=>?_,h.PO,h.ix,?_⟩
 ·rw[ha _ (.inr (.inl (by omega)))];exact h.aL i hi
 ·have e:eY d' 90 (d'.aW.length-90) (f1+1)=eY d 90 (d.aW.length-90) (f1+1):=by rw[hl];exact xW fun j _=>ha _ (.inr (.inr (by omega)))
  exact⟨hs,by rw[hl];exact h.log.len,by rw[e];exact h.log.deeds,by rw[e];exact h.log.av⟩
theorem Cu (k:Nat) (a:Nat) (l:List (List UInt8)) (K:List (List UInt8)) (x:Nat) (hx:x<a∨a+l.length<=x):(dC k 0 (LZ a l) K).getD x []=K.getD x []:=
 sR k _ _ _ x fun y hy=>by obtain⟨i,hi,rfl⟩:=List.mem_mapIdx.1 hy;show a+i≠x;omega
theorem vF (aH bytes f1:Nat):(iJ aH bytes f1).length=21:=by simp[iJ,kn,bR]
theorem Od {d:DK} {aH f1 av:Nat} {L:List bn} {D:List (List bn)} (h:dd d aH f1 L D av) (L':List bn) (hk:Gl L') (hn:L'.length<=64) (g1:Nat) (hg:(eY d 90 (d.aW.length-90) (g1+1)).deeds=[]/\(eY d 90 (d.aW.length-90) (g1+1)).av=0):
 ((ib d (1-aH) (bB L') g1).1=none/\(ib d (1-aH) (bB L') g1).2.aW.length=d.aW.length/\(d.left<0->(ib d (1-aH) (bB L') g1).2.left=d.left)/\dd (ib d (1-aH) (bB L') g1).2 (1-aH) g1 L' [] 0)∨
 ((ib d (1-aH) (bB L') g1).1=some 10/\¬d.left<0/\∀k,((ib d (1-aH) (bB L') g1).2.again k).aW.length=d.aW.length/\(dd ((ib d (1-aH) (bB L') g1).2.again k) aH f1 L D av∨dd ((ib d (1-aH) (bB L') g1).2.again k) (1-aH) g1 L' [] 0)):=by
 have uw:=eL hk.ok;have tL:=oo (bB L');have hh:=h.hf;have hlen:=h.len;have hc44:(nG (bB L')).length<=44:=by omega
 obtain⟨e1,d1,h1⟩:∃e1 d1,dy (nG (bB L')) d (1+(1-aH)*44)=(e1,d1):=⟨_,_,rfl⟩;have c1:=mc (nG (bB L')) d (1+(1-aH)*44) h.steady.down (by omega) (Ln _);rw[h1]at c1;unfold ib;rw[h1]
 rcases c1 with⟨he,g⟩|⟨he,g⟩
 ·simp only at he g;subst he;simp only;have rY:d1.aW.length=d.aW.length:=by rw[g.aW,eS]
  have ha1:∀x,(x=0∨(1+aH*44<=x/\x<1+aH*44+44)∨90<=x)->d1.aW.getD x []=d.aW.getD x []:=fun x hx=>by rw[g.aW,iE _ _ _ _ (by omega)]
  have hold:dd d1 aH f1 L D av:=h.agree g.steady rY ha1
  have qC:∀d2:DK,mA d2->d2.aW=d1.aW.set 0 (eF (iJ (1-aH) (bB L').length g1))->dd d2 (1-aH) g1 L' [] 0:=fun d2 yl Mv=>by
   have tm:d2.aW.length=d.aW.length:=by rw[Mv,length_set,rY]
   have iV:∀x,x≠0->d2.aW.getD x []=d1.aW.getD x []:=fun x hx=>by rw[Mv,List.getD,List.getD,getElem?_set_ne (Ne.symm hx)]
   refine⟨yl,by rw[tm];exact h.len,by omega,by rw[Mv,List.getD,getElem?_set_self (by omega)];rfl,fun i hi=>?_,hk,hn,?_⟩
   ·rw[iV _ (by omega),g.aW];exact qf (nG (bB L')) d.aW (1+(1-aH)*44) i _ (by omega) (Jl hi)
   ·have e:eY d2 90 (d2.aW.length-90) (g1+1)=eY d 90 (d.aW.length-90) (g1+1):=by rw[tm];exact xW fun j _=>by rw[iV _ (by omega),ha1 _ (.inr (.inr (by omega)))]
    exact⟨yl,by omega,by rw[e];exact hg.1,by rw[e];exact hg.2⟩
  obtain⟨e2,d2,h2⟩:∃e2 d2,dy [iJ (1-aH) (bB L').length g1] d1 0=(e2,d2):=⟨_,_,rfl⟩;have c2:=mc [iJ (1-aH) (bB L').length g1] d1 0 g.down (by simp only[length_singleton];omega) (by intro s hs;rw[mem_singleton.1 hs,vF];omega);rw[h2]at c2;rw[h2]
  rcases c2 with⟨he,g2⟩|⟨he,g2⟩
  ·simp only at he g2;refine .inl ⟨he,by simp only;rw[g2.aW,eS,rY],fun hl=>?_,qC d2 g2.steady g2.aW⟩;simp only;rw[g2.left (by rw[g.left hl];exact hl),g.left hl]
  ·simp only at he g2;refine .inr ⟨he,fun hl=>g2.left (by rw[g.left hl];exact hl),fun k=>?_⟩;obtain⟨m,hm⟩:=g2.wr
   have WN:(d2.again k).aW=dC k 0 (LZ 0 ([iJ (1-aH) (bB L').length g1].take m)) d1.aW:=by unfold DK.again;simp only;rw[hm,g2.kept,g.wr,nil_append,g.steady.kept]
   have Zh:(d2.again k).aW.length=d.aW.length:=by rw[WN,kr,rY]
   refine⟨Zh,?_⟩
   cases m with
   |zero=>refine .inl (hold.agree ⟨rfl,rfl,rfl⟩ (by rw[Zh,rY]) fun x _=>?_);rw[WN];rfl
   |succ m=>
    rw[take_succ_cons,take_nil,uR]at WN
    rcases wY k 0 (eF (iJ (1-aH) (bB L').length g1)) d1.aW with hx|hx
    ·exact .inr (qC _ ⟨rfl,rfl,rfl⟩ (WN.trans hx))
    ·refine .inl (hold.agree ⟨rfl,rfl,rfl⟩ (by rw[Zh,rY]) fun x _=>?_);rw[WN];exact congrArg (fun l=>List.getD l x []) hx
 ·simp only at he g;subst he;simp only;refine .inr ⟨trivial,g.left,fun k=>?_⟩;obtain⟨m,hm⟩:=g.wr
  have WN:(d1.again k).aW=dC k 0 (LZ (1+(1-aH)*44) ((nG (bB L')).take m)) d.aW:=by unfold DK.again;simp only;rw[hm,g.kept,h.steady.wr,nil_append,h.steady.kept]
  have Zh:(d1.again k).aW.length=d.aW.length:=by rw[WN,kr]
  refine⟨Zh,.inl (h.agree ⟨rfl,rfl,rfl⟩ Zh fun x hx=>?_)⟩;rw[WN];refine Cu k _ _ _ x ?_;rw[length_take];omega
attribute [local go_sem] Oper.semAt_some
theorem Pg {T:List UInt8} {k:Nat} (h:k*140<T.length):(nG T).drop k=((T.drop (k*140)).take 140)::(nG T).drop (k+1):=by
 have hl:k<(nG T).length:=by rw[oo];omega
 rw[drop_eq_getElem_cons hl];have hg:=Jl h;rw[getElem?_eq_getElem hl]at hg;rw[Option.some.inj hg]
theorem Ph {T:List UInt8} {k:Nat} (h:T.length<=k*140):(nG T).drop k=[]:=drop_of_length_le (by rw[oo];omega)
theorem SJ (T:List UInt8) (k:Nat):(bt (T.drop (k*140))).extract (min (bt (T.drop (k*140))).size 140) (bt (T.drop (k*140))).size=bt (T.drop ((k+1)*140)):=by
 rw[dG,cB,take_of_length_le (Nat.le_refl _),drop_drop,length_drop]
 congr 1
 by_cases h:140<=T.length-k*140
 ·rw[Nat.min_eq_right h];congr 1;omega
 ·rw[Nat.min_eq_left (by omega),drop_of_length_le (by omega),drop_of_length_le (by omega)]
theorem SK (T:List UInt8) (k:Nat):(bt (T.drop (k*140))).extract 0 (min (bt (T.drop (k*140))).size 140)=bt ((T.drop (k*140)).take 140):=by
 rw[dG,cB,drop_zero]
 congr 1
 by_cases h:140<=(T.drop (k*140)).length
 ·rw[Nat.min_eq_right h]
 ·rw[Nat.min_eq_left (by omega),take_of_length_le (Nat.le_refl _),take_of_length_le (by omega)]
def jB (B lb db aH m g:Nat) (x:Value) (l2:List aI):List aI:=eN lb db 90 m g 0::.cell (B+1+1+1) 30 [x]::.cell (B+1+1) 57 [.pointer none]::.cell (B+1) 3 [.int .i64 aH]::.cell B 24 [.pointer (some ⟨db,0,none⟩)]::l2
def od (Bx D:Nat) (s:Value) (r:Loop) (au:List aI):List aI:=.obj (D+1) (.loop r)::.obj D (.deferred (some []))::.cell Bx 9 [s]::au
def LJ (w0:World) (db:Nat) (d:DK) (T:List UInt8) (a0 Bx D:Nat) (r:Loop) (au:List aI) (k j:Nat) (s:ByteArray) (W:World):Prop:=
 ∃dk,aE w0 W db dk (od Bx D (.string s) r au)/\dy (nG T) d a0=dy ((nG T).drop j) dk (a0+j)/\dk.wr.length<=d.wr.length+j/\s=bt (T.drop (k*140))
def LX (w0:World) (db:Nat) (d:DK) (T:List UInt8) (a0 Bx D:Nat) (r:Loop) (au:Value->List aI) (W:World):Prop:=
 ∃kk dk s,dy (nG T) d a0=(some kk,dk)/\aE w0 W db dk (od Bx D s {r with state:=.done,pending:=some .ret} (au (.iface 88 (.int .i64 kk))))
def ox (w0:World) (db:Nat) (d:DK) (l2:List aI) (v:Value) (L:List bn) (aH first:Nat) (e:Ending) (w':World):Prop:=
 match ib d aH (bB L) (cd d first-1)with
 |(none,d')=>∃sb lb,e=.returned (.tuple #[.pointer (some ⟨sb,0,none⟩),.nilIface])/\aE w0 w' db d' (fe sb db aH v lb::eN lb db 90 (d.aW.length-90) (cd d first) 0::l2)
 |(some k,d')=>e=.returned (.tuple #[.pointer none,.iface 88 (.int .i64 k)])/\aE w0 w' db d' l2
theorem px {n:Nat} {R:Ending->World->Prop} {tmps:Array Value} {W:World} {D B8 B9:Nat} {x y:Value} {e:Exit} (he:e=.ret∨e=.normal) (hK:W.heap[D]? = some (.deferred (some [])))
 (ht8:tmps[8]?.getD undef=.pointer (some ⟨B8,0,none⟩)) (ht9:tmps[9]?.getD undef=.pointer (some ⟨B9,0,none⟩))
 (h8:(W.putObj D (.deferred none)).cell? ⟨B8,0,none⟩=some x) (h9:(W.putObj D (.deferred none)).cell? ⟨B9,0,none⟩=some y)
 (hR:R (.returned (.tuple #[x,y])) (W.putObj D (.deferred none))):bodyPostM Fence.wide n prog Tryz.f97 R e {tmps:=tmps,defers:=[{target:=.collected D,args:=#[]}]} W:=by
 have az:LeavesInM Fence.wide n prog Tryz.f97 tmps R [{target:=.collected D,args:=#[]}] .returning W:=by
  refine⟨by simp,.inl ⟨_,_,rfl,run_takeDeferred hK,?_⟩⟩;refine⟨_,?_,hR⟩;have nQ:Tryz.f97.results=#[.cell 8 57,.cell 9 30]:=by kernel_rfl
  simp only[results,nQ];simp[go_sem,ht8,ht9,h8,h9]
 rcases he with rfl|rfl<;>exact az
theorem Um {P:Program} {c:Code} {Q:Exit->Go.Act->World->Prop} {a:Go.Act} {w:World} (h:c.wp P (fun e a' w'=>match e with
 |.normal=>Q .normal a' w'
 |_=>False) a w):c.wp P Q a w:=
 wp_mono h fun e a' w' hx=>by cases e<;>first|exact hx|exact hx.elim
theorem Dd {d d1:DK} {aH f1:Nat} {T:List UInt8} {e:Int} (h:dy (nG T) d (1+aH*44)=(some e,d1)):ib d aH T f1=(some e,d1):=by unfold ib;rw[h]
theorem Og {d d1:DK} {aH f1:Nat} {T:List UInt8} (h:dy (nG T) d (1+aH*44)=(none,d1)):ib d aH T f1=dy [iJ aH T.length f1] d1 0:=by unfold ib;rw[h]
theorem aw.sub {w0 w:World} {l2 l3:List aI} (h:aw w0 w l2) (hs:l3.Sublist l2):aw w0 w l3:=by
 refine h.conv (fun x=>?_) fun r hr=>h.sat r (hs.subset hr)
 clear h
 induction hs with
 |slnil=>exact Nat.le_refl _
 |cons a _ ih=>rw[ax];omega
 |cons_cons a _ ih=>rw[ax,ax];omega
theorem aE.sub {w0 w:World} {db:Nat} {d:DK} {l2 l3:List aI} (h:aE w0 w db d l2) (hs:l3.Sublist l2):aE w0 w db d l3:=by
 obtain⟨dp,h1,h2⟩:=h.back;exact h2 w l3 (h1.sub (hs.append_right dp))
theorem yi {w0 w:World} {db:Nat} {d:DK} {l2:List aI} (h:aE w0 w db d l2) (ju:d.down=false) (hlen:104<=d.aW.length) (Di:d.wr.length<=1000) (v:Value) (L:List bn) (hv:∀w',aw w0 w' l2->F7 w' v L) (hn:L.length<=64) (hc:∀c∈L,aR c=none) (aH:Nat) (hh:aH<=1) (first:Nat) (U5:1<=first) (hf:first<=900000):
 Calls prog 97 #[.pointer (some ⟨db,0,none⟩),v,.int .i64 aH,.int .i64 first] w fun e w'=>ox w0 db d l2 v L aH first e w':=by
 obtain⟨pv,cv,hvv⟩:=iP.slice (hv w h.hold);subst hvv;have hB:∃B,w.heap.size=B:=⟨_,rfl⟩;obtain⟨B,hB⟩:=hB;have h1:=(((h.aY 24 [.pointer (some ⟨db,0,none⟩)]).aY 3 [.int .i64 aH]).aY 57 [.pointer none]).aY 30 [.nilIface];simp only[World.size_alloc,hB]at h1;obtain⟨wa,hwa⟩:=aa ((((w.alloc (.cells [.pointer (some ⟨db,0,none⟩)].toArray 24)).alloc (.cells [.int .i64 aH].toArray 3)).alloc (.cells [.pointer none].toArray 57)).alloc (.cells [.nilIface].toArray 30));rw[hwa]at h1;have e1:=Bv h1 ju first U5 hf (by omega)
 unfold B0 at e1;have k4:wa.cell? ⟨B,0,none⟩=some (.pointer (some ⟨db,0,none⟩)):=h1.cellAt ah rfl;have E1:=aq e1;have H:=aq h;have HV:=aq hv;have HC:=aq hc;clear e1 h1 h hv hc;refine(callsIn_wide (n:=3)).1 ?_;refine callsIn_of_wp_marks func97 rfl trivial ?_ rfl;refine wpIn_wide.2 ?_;simp only[ntmps97,size_toArray,length_cons,length_nil,Nat.reduceAdd,Nat.reduceSub,Array.replicate_succ,Array.replicate_zero,push_toArray,append_toArray,nil_append,cons_append];go_wp2_with fail
 refine(an E1).mono ?_;rintro e w1 ⟨lb,rfl,yr⟩;clear E1 hwa k4;obtain⟨g,hg⟩:=aa (cd d first)
 rw[hg]at yr;have hlL:L.length=(L.length):=rfl;have et:=Ea _ L w1 (an HV w1 (aE.eM [_,_,_,_,_] yr).hold) (by omega) (an HC);have ET:=aq et;have CM:Hid (aE w0 w1 db d (jB B lb db aH (d.aW.length-90) g .nilIface l2)):=yr;clear et yr;go_wp2_with fail;refine(an ET).mono ?_;rintro e w2 ⟨rfl,Gj⟩;have zI:=aq ((an CM).over Gj);obtain⟨T,hT⟩:=aa (bB L);have ec:=Pf (bt (bB L)) w2;rw[hT]at ec;simp only[hT];have EC:=aq ec;clear ec ET CM Gj;go_wp2_with fail;refine(an EC).mono ?_
 rintro e w3 ⟨rfl,hw3⟩
 have Cj:Hid (aE w0 w3 db d (.cell w2.heap.size 9 [.string (bt T)]::jB B lb db aH (d.aW.length-90) g .nilIface l2)):=by rw[hw3];exact(an zI).aY 9 [.string (bt T)]
 obtain⟨Bx,hBx⟩:=aa w2.heap.size;rw[hBx]at Cj ⊢;clear EC zI hw3 hBx;go_wp2_with fail;refine QK (n:=3) (gf:=210) (lb:=#[.pointer (some ⟨Bx,0,none⟩)]) rfl (enters_of func210 (by kernel_rfl) rfl) ?_;intro fn r hr;have hmx:prog.follows .mixedOrders=true:=by kernel_rfl
 have PF:Hid (aE w0 ((w3.alloc (.deferred (some []))).alloc (.loop r)) db d (od Bx w3.heap.size (.string (bt T)) r (jB B lb db aH (d.aW.length-90) g .nilIface l2))):=by have h5:=((an Cj).newObj (.deferred (some []))).newObj (.loop r);rw[World.size_alloc]at h5;exact h5
 obtain⟨w4,qy⟩:=aa ((w3.alloc (.deferred (some []))).alloc (.loop r));rw[qy]at PF ⊢;obtain⟨D,hD⟩:=aa w3.heap.size;rw[hD]at PF hr ⊢;clear qy hD Cj;have hTl:T.length<=6080:=by have:=eL (an HC);rw[hT]at this;omega
 refine(VB (3-1) (D+1) Bx (by omega) (fun k s W=>LJ w0 db d T (1+aH*44) Bx D r (jB B lb db aH (d.aW.length-90) g .nilIface l2) k k s W)
  (fun k s W=>LJ w0 db d T (1+aH*44) Bx D r (jB B lb db aH (d.aW.length-90) g .nilIface l2) k (k+1) s W)
  (fun W=>LX w0 db d T (1+aH*44) Bx D r (fun x=>jB B lb db aH (d.aW.length-90) g x l2) W) ?_ ?_ ?_ (bt T) (by rw[cB];omega) w4 ?_).mono ?_
 ·rintro k s W ⟨dk,hk,-⟩;exact⟨hk.cellAt ag rfl,hk.hold.frozenAt ag 0⟩
 ·rintro k s W ⟨dk,hk,hl,hw,hs⟩;refine⟨hk.cellAt ag rfl,hk.hold.frozenAt ag 0,dk,aE.store [_,_] hk 0 _ _ rfl,hl,hw,?_⟩;rw[hs];exact SJ T k
 ·rintro k s W ⟨dk,hk,hl,hw,hs⟩ rX
  have hkT:k*140<T.length:=by rw[hs,cB,length_drop]at rX;omega
  have hS:s.extract 0 (min s.size 140)=bt ((T.drop (k*140)).take 140):=by rw[hs];exact SK T k
  rw[hS];obtain⟨R,hR⟩:∃R:Ending->World->Prop,R=fun e W'=>(e=.returned (.bool true)/\LJ w0 db d T (1+aH*44) Bx D r (jB B lb db aH (d.aW.length-90) g .nilIface l2) k (k+1) s W')∨(e=.returned (.bool false)/\LX w0 db d T (1+aH*44) Bx D r (fun x=>jB B lb db aH (d.aW.length-90) g x l2) W'):=⟨_,rfl⟩
  refine YieldAt.mono (R:=R) ?_ (by rw[hR];exact fun e w h=>h);have aaB:W.heap[D+1]? = some (.loop r):=hk.hold.tG ae;have hE:=hl;rw[Pg hkT,dy]at hE;obtain⟨pc,hpc⟩:=aa ((T.drop (k*140)).take 140);rw[hpc]at hE ⊢;refine NC (a₁:=?a1) aaB (by rw[hr]) (by rw[hr];rfl) ?asg ?bdy
  case asg=>
   intro K hK;rw[hr]
   dsimp only
   gi_wp2
   exact hK
  case bdy=>
   have ZB:Hid (aE w0 (W.putObj (D+1) (.loop {r with state:=.busy})) db dk (od Bx D (.string s) {r with state:=.busy} (jB B lb db aH (d.aW.length-90) g .nilIface l2))):=aE.putObj [] hk _;obtain⟨W1,tu⟩:=aa (W.putObj (D+1) (.loop {r with state:=.busy}));rw[tu]at ZB ⊢;have k4:W1.cell? ⟨B,0,none⟩=some (.pointer (some ⟨db,0,none⟩)):=(an ZB).cellAt (.tail _ ak) rfl;have k6:W1.cell? ⟨B+1,0,none⟩=some (.int .i64 aH):=(an ZB).cellAt ak rfl
   have Hs:=aq hs;clear tu hk aaB hS hl rX hs PF;have HR:=aq hR;have HE:=aq hE;clear hR hE hpc;rw[hr]
   dsimp only
   have hes:=fun wx=>xR aH hh wx
   have nS:k<=6080:=by omega
   have hdw:dk.wr.length<=10000:=by omega
   have HES:=aq hes;clear hes;have ew:=l5 w0 W1.drew db dk _ (an ZB).drew (by omega) ((1+aH*44+k:Nat):Int) (bt pc);unfold sw at ew;rw[fK]at ew;have Wz:((1+aH*44+k:Nat):Int)=1+(aH:Int)*44+(k:Int):=by omega
   have Cx:IntKind.i64.wrap (((1+aH*44:Nat):Int)+(k:Int))=((1+aH*44+k:Nat):Int):=by rw[sE _ (by omega)];omega
   rw[<-Cx]at ew;have EW:=aq ew;have hwq:=tV dk ((1+aH*44+k:Nat):Int) pc;have HWQ:=aq hwq;have HWZ:=aq Cx;obtain⟨st,gz⟩:=aa (1+aH*44);rw[gz]at HES EW HE HWZ HWQ HR;clear ew Wz Cx hwq gz
   gi_wp2
   refine Qk {tmps:=#[.pointer (some ⟨db,0,none⟩),.slice pv L.length cv,.int .i64 aH,.int .i64 g,.pointer (some ⟨B,0,none⟩),undef,.pointer (some ⟨B+1,0,none⟩),undef,.pointer (some ⟨B+1+1,0,none⟩),.pointer (some ⟨B+1+1+1,0,none⟩),.pointer (some ⟨lb,0,none⟩),.nilIface,.string (bt T),.int .i64 k,.string (bt pc),bH (dk.kH (IntKind.i64.wrap ((st:Int)+(k:Int))) pc),undef,undef,undef,.tuple #[.pointer (some ⟨lb,0,none⟩),.int .i64 g,.nilIface],.pointer (some ⟨db,0,none⟩),.int .i64 first,.tuple #[.pointer (some ⟨lb,0,none⟩),.int .i64 g,.nilIface],.pointer (some ⟨lb,0,none⟩),.int .i64 g,.nilIface,.nilIface,.bool false,undef,.tuple #[.string (bt T),.nilIface],.slice pv L.length cv,.tuple #[.string (bt T),.nilIface],.string (bt T),.nilIface,.nilIface,.bool false,undef,.string (bt T),.func (.func 210) #[] #[.pointer (some ⟨Bx,0,none⟩)],.int .i64 k,.string (bt pc),.pointer (some ⟨db,0,none⟩),.int .i64 aH,.int .i64 st,.int .i64 k,.int .i64 (IntKind.i64.wrap ((st:Int)+(k:Int))),.string (bt pc),bH (dk.kH (IntKind.i64.wrap ((st:Int)+(k:Int))) pc),undef,undef,undef,undef,undef,undef,undef,undef,undef,undef,undef,undef,undef,undef,undef,undef,undef,undef,undef,undef,undef,undef,undef,undef,undef,undef,undef,undef,undef,undef],defers:=[]} (fun w'=>aE w0 w' db (dk.written (IntKind.i64.wrap ((st:Int)+(k:Int))) pc) (od Bx D (.string s) {r with state:=.busy} (jB B lb db aH (d.aW.length-90) g .nilIface l2))) ?reg ?rest
   case reg=>
    gi_region_with_o (first|(refine⟨trivial,?_⟩;gi_at_call 103;refine(CallsIn.inRound (D+1) (callsIn_wide.2 (an HES _))).mono ?_;rintro e w' ⟨rfl,rfl⟩)|(refine⟨trivial,?_⟩;gi_at_call 155;refine(CallsIn.inRound (D+1) (callsIn_wide.2 (an EW))).mono ?_;rintro e w6 ⟨rfl,mh⟩))
    all_goals exact⟨rfl,rfl,mh⟩
   case rest=>
    intro w6 mh;rw[an HWZ]at mh ⊢;have hE:=an HE;have Y4:Hid (aE w0 w6 db _ _):=mh;have k8:w6.cell? ⟨B+1+1,0,none⟩=some (.pointer none):=mh.cellAt aj rfl;have f8:=mh.hold.frozenAt aj 0;have k9:w6.cell? ⟨B+1+1+1,0,none⟩=some (.nilIface):=mh.cellAt ai rfl;have f9:=mh.hold.frozenAt ai 0;clear mh k4 k6
    cases ho:dk.kH ((st+k:Nat):Int) pc with
    |none=>
     rw[ho]at hE;simp only[bH]at hE ⊢;have V2:=aq hE;clear hE HE ho EW HES
     gi_wp2
     have jD:(Instr.endRound (D+1) none).run prog w6=.ok (.bool true) (w6.putObj (D+1) (.loop r)):=by refine(run_endRound (P:=prog) none ((an Y4).hold.tG ae)).trans ?_;rw[hr];rfl
     refine⟨_,_,jD,?_⟩;rw[an HR];refine .inl ⟨rfl,_,aE.putObj [] (an Y4) _,an V2,?_,an Hs⟩;have:=an HWQ;omega
    |some kk=>
     rw[ho]at hE;simp only[bH]at hE ⊢;have V2:=aq hE;clear hE HE ho EW HES
     gi_wp2
     have h8:=aE.store [_,_,_,_,_] (an Y4) 0 (.pointer none) _ rfl;have h9:=aE.store [_,_,_,_] h8 0 (.iface 88 (.int .i64 kk)) _ rfl;refine⟨_,_,run_endRound (some .ret) (h9.hold.tG ae),?_⟩;rw[an HR];exact .inr ⟨rfl,kk,_,_,an V2,aE.putObj [] h9 _⟩
 ·exact⟨d,an PF,rfl,Nat.le_refl _,by simp⟩
 ·rintro e W ⟨⟨v,rfl⟩,(⟨m,s,hs,dk,hk,hl,hw,yl⟩|⟨kk,dk,s,hl,hk⟩)⟩
  ·have hTd:T.length<=m*140:=by
    rw[yl,cB,length_drop]at hs;omega
   rw[Ph hTd,dy]at hl
   have tr:(Instr.endLoop (D+1)).run prog W=.ok none (W.putObj (D+1) (.loop {r with state:=.exhausted})):=by refine(run_endLoop (P:=prog) (hk.hold.tG ae) (by rw[hr];simp)).trans ?_;rw[hr]
   refine⟨none,_,tr,?_⟩;have PE:Hid (aE w0 (W.putObj (D+1) (.loop {r with state:=.exhausted})) db dk (od Bx D (.string s) {r with state:=.exhausted} (jB B lb db aH (d.aW.length-90) g .nilIface l2))):=aE.putObj [] hk _;obtain⟨W5,hW5⟩:=aa (W.putObj (D+1) (.loop {r with state:=.exhausted}));rw[hW5]at PE ⊢;obtain⟨r5,hr5⟩:∃r5:Loop,{r with state:=.exhausted}=r5:=⟨_,rfl⟩;rw[hr5]at PE;have k4:W5.cell? ⟨B,0,none⟩=some (.pointer (some ⟨db,0,none⟩)):=(an PE).cellAt (.tail _ ak) rfl
   have ef:=sf w0 W5 db dk _ (an PE);unfold sD at ef;have EF:=aq ef;have HL:=aq hl;clear ef hl hW5 hr5 tr hk hw hs yl hTd hr PF;simp only[cons_append,nil_append];obtain⟨q1,q2,q3,q4⟩:=kt d first
   rw[hg]at q3 q4;have Hg:=aq hg;have oP:((g-1:Nat):Int)+1=(g:Int):=by omega
   have e94:=fun wx:World=>Eb aH T.length (g-1) hh (by omega) (by omega) wx
   rw[oP]at e94;have gP:(bt T).size=T.length:=cB T;rw[<-gP]at e94;have E94:=aq e94;have HT:=aq hT;clear e94 q1 q2 hT hg;go_wp2_with fail;refine(an EF).mono ?_;rintro e w6 ⟨rfl,mh⟩;have zH:=aq mh;have k4:w6.cell? ⟨B,0,none⟩=some (.pointer (some ⟨db,0,none⟩)):=mh.cellAt (.tail _ ak) rfl;have k6:w6.cell? ⟨B+1,0,none⟩=some (.int .i64 aH):=mh.cellAt ak rfl;have k8:w6.cell? ⟨B+1+1,0,none⟩=some (.pointer none):=mh.cellAt aj rfl
   have f8:=mh.hold.frozenAt aj 0;have k9:w6.cell? ⟨B+1+1+1,0,none⟩=some (.nilIface):=mh.cellAt ai rfl;have f9:=mh.hold.frozenAt ai 0;clear mh EF PE
   cases wG:dk.fu with
   |some kk=>
    have OJ:ib d aH (bB L) (cd d first-1)=(some kk,dk.fP):=Dd (by rw[an HT,an HL,wG]);have Y1:=aq OJ;simp only[bH];clear E94 wG OJ HL;go_wp2_with fail;have h8:=aE.store [_,_,_,_,_] (an zH) 0 (.pointer none) _ rfl;have h9:=aE.store [_,_,_,_] h8 0 (.iface 88 (.int .i64 kk)) _ rfl;have pH:=aE.putObj [_] h9 (.deferred none);refine px (.inl rfl) (h9.hold.tG af) rfl rfl (pH.cellAt aj rfl) (pH.cellAt ai rfl) ?_
    unfold ox;rw[an Y1];exact⟨rfl,aE.eM [_,_,_,_,_,_,_,_] pH⟩
   |none=>
    obtain⟨d1,Gh⟩:=aa dk.fP;rw[Gh]at zH
    have OJ:ib d aH (bB L) (cd d first-1)=dy [iJ aH (bt T).size (g-1)] d1 0:=by rw[an Hg,gP,an HT];exact Og (by rw[an HL,wG,Gh])
    have AV:d1.wr.length<=10000:=by rw[<-Gh,uJ dk wG];exact Nat.zero_le _
    have Y1:=aq OJ;simp only[bH];obtain⟨hb,hhb⟩:=aa (iJ aH (bt T).size (g-1));rw[hhb]at Y1;have Yo:=an E94;rw[hhb]at Yo;have Y7:=aq Yo;have ew:=fun(wx:World) (hx:aE w0 wx db d1 _)=>l5 w0 wx db d1 (od Bx D (.string s) r5 (jB B lb db aH (d.aW.length-90) g .nilIface l2)) hx (by omega) 0 (bt hb)
    unfold sw at ew;simp only[fK]at ew;have EW:=aq ew
    have D0:Hid (∀wx dx,aE w0 wx db dx (od Bx D (.string s) r5 (jB B lb db aH (d.aW.length-90) g .nilIface l2))->wx.cell? ⟨B,0,none⟩=some (.pointer (some ⟨db,0,none⟩))/\wx.cell? ⟨B+1,0,none⟩=some (.int .i64 aH)):=
     fun wx dx hx=>⟨hx.cellAt (.tail _ ak) rfl,hx.cellAt ak rfl⟩
    have rh:Hid (w6.drew.cell? ⟨B,0,none⟩=some (.pointer (some ⟨db,0,none⟩))/\w6.drew.cell? ⟨B+1,0,none⟩=some (.int .i64 aH)):=⟨k4,k6⟩;have Ul:=aq (an zH).drew;clear ew Yo E94 hhb OJ Gh wG HL AV k8 f8 k9 f9;go_wp2_with fail;refine Um ?_
    go_region_held (fun w'=>w'.cell? ⟨B,0,none⟩=some (.pointer (some ⟨db,0,none⟩))/\w'.cell? ⟨B+1,0,none⟩=some (.int .i64 aH)) (first|exact an HS8|exact an Tx|exact an rh) ((first|(go_at_call 157;refine(an Y7 _).mono ?_;rintro e w7 ⟨rfl,Sg⟩;have rl:=aq ((an Ul).over Sg);have Tx:=aq (an D0 _ _ (an rl));clear Sg)|(go_at_call 155;refine(an EW _ ?_).mono ?_;exact an rl;rintro e w8 ⟨rfl,P0⟩;have HS8:=aq (an D0 _ _ P0);have Qe:=aq P0;clear P0)))
    dsimp only
    have k4:w8.cell? ⟨B,0,none⟩=some (.pointer (some ⟨db,0,none⟩)):=(an Qe).cellAt (.tail _ ak) rfl;have k8:w8.cell? ⟨B+1+1,0,none⟩=some (.pointer none):=(an Qe).cellAt aj rfl;have f8:=(an Qe).hold.frozenAt aj 0;have k9:w8.cell? ⟨B+1+1+1,0,none⟩=some (.nilIface):=(an Qe).cellAt ai rfl;have f9:=(an Qe).hold.frozenAt ai 0
    cases hwe:d1.kH 0 hb with
    |some kk=>
     have OJ:ib d aH (bB L) (cd d first-1)=(some kk,d1.written 0 hb):=by rw[an Y1,dy];simp only[Int.natCast_zero];rw[hwe]
     have Zz:=aq OJ;simp only[bH];clear OJ hwe EW Y7 Y1 rl Tx HS8 Ul rh D0 zH;go_wp2_with fail;have h8:=aE.store [_,_,_,_,_] (an Qe) 0 (.pointer none) _ rfl;have h9:=aE.store [_,_,_,_] h8 0 (.iface 88 (.int .i64 kk)) _ rfl;have pH:=aE.putObj [_] h9 (.deferred none);refine px (.inl rfl) (h9.hold.tG af) rfl rfl (pH.cellAt aj rfl) (pH.cellAt ai rfl) ?_;unfold ox;rw[an Zz];exact⟨rfl,aE.eM [_,_,_,_,_,_,_,_] pH⟩
    |none=>
     obtain⟨d2,vG⟩:=aa (d1.written 0 hb)
     have OJ:ib d aH (bB L) (cd d first-1)=(d2.fu,d2.fP):=by rw[an Y1,dy];simp only[Int.natCast_zero];rw[hwe];simp only;rw[vG,dy]
     have Zz:=aq OJ;rw[vG]at Qe;have ef:=sf w0 w8 db d2 _ (an Qe);unfold sD at ef;have EF:=aq ef;simp only[bH];clear OJ hwe EW Y7 Y1 rl Tx HS8 Ul rh D0 zH vG ef k8 f8 k9 f9;go_wp2_with fail;refine(an EF).mono ?_;rintro e w9 ⟨rfl,Cf⟩;have HD9:=aq Cf;have k4:w9.cell? ⟨B,0,none⟩=some (.pointer (some ⟨db,0,none⟩)):=Cf.cellAt (.tail _ ak) rfl;have k6:w9.cell? ⟨B+1,0,none⟩=some (.int .i64 aH):=Cf.cellAt ak rfl
     have k8:w9.cell? ⟨B+1+1,0,none⟩=some (.pointer none):=Cf.cellAt aj rfl;have f8:=Cf.hold.frozenAt aj 0;have k9:w9.cell? ⟨B+1+1+1,0,none⟩=some (.nilIface):=Cf.cellAt ai rfl;have f9:=Cf.hold.frozenAt ai 0;clear Cf EF
     cases wG:d2.fu with
     |some kk=>rw[wG]at Zz;simp only[bH];clear wG;go_wp2_with fail;have h8:=aE.store [_,_,_,_,_] (an HD9) 0 (.pointer none) _ rfl;have h9:=aE.store [_,_,_,_] h8 0 (.iface 88 (.int .i64 kk)) _ rfl;have pH:=aE.putObj [_] h9 (.deferred none);refine px (.inl rfl) (h9.hold.tG af) rfl rfl (pH.cellAt aj rfl) (pH.cellAt ai rfl) ?_;unfold ox;rw[an Zz];exact⟨rfl,aE.eM [_,_,_,_,_,_,_,_] pH⟩
     |none=>
      rw[wG]at Zz;simp only[bH];clear wG;have h1:=(an HD9).aY 122 [.pointer (some ⟨db,0,none⟩),.int .i64 aH,.slice pv L.length cv,.pointer (some ⟨lb,0,none⟩)];obtain⟨sb,Cz⟩:=aa w9.heap.size;rw[Cz]at h1;obtain⟨wb,hwb⟩:=aa (w9.alloc (.cells [.pointer (some ⟨db,0,none⟩),.int .i64 aH,.slice pv L.length cv,.pointer (some ⟨lb,0,none⟩)].toArray 122));rw[hwb]at h1;have ZB:=aq h1;have c8:wb.cell? ⟨B+1+1,0,none⟩=some (.pointer none):=h1.cellAt ak rfl
      have g8:=h1.hold.frozenAt ak 0;have c9:wb.cell? ⟨B+1+1+1,0,none⟩=some (.nilIface):=h1.cellAt aj rfl;have g9:=h1.hold.frozenAt aj 0;clear h1;go_wp2_with fail;have h8:=aE.store [_,_,_,_,_,_] (an ZB) 0 (.pointer (some ⟨sb,0,none⟩)) _ rfl;have h9:=aE.store [_,_,_,_,_] h8 0 .nilIface _ rfl;have pH:=aE.putObj [_,_] h9 (.deferred none);refine px (.inl rfl) (h9.hold.tG ag) rfl rfl (pH.cellAt ak rfl) (pH.cellAt aj rfl) ?_
      unfold ox;rw[an Zz,an Hg];exact⟨sb,lb,rfl,pH.sub (.cons_cons _ (.cons _ (.cons _ (.cons _ (.cons_cons _ (.cons _ (.cons _ (.cons _ (.cons _ (.refl _))))))))))⟩
  ·have OJ:ib d aH (bB L) (cd d first-1)=(some kk,dk):=Dd (by rw[hT,hl])
   have tr:(Instr.endLoop (D+1)).run prog W=.ok (some .ret) (W.putObj (D+1) (.loop { {r with state:=.done,pending:=some .ret} with state:=.exhausted})):=
    run_endLoop (P:=prog) (hk.hold.tG ae) (by simp)
   refine⟨some .ret,_,tr,?_⟩;have h9:=aE.putObj [] hk (.loop { {r with state:=.done,pending:=some .ret} with state:=.exhausted});have pH:=aE.putObj [_] h9 (.deferred none);refine wpIn_wide.2 ?_;refine wp_ret ?_;refine px (.inl rfl) (h9.hold.tG af) rfl rfl (pH.cellAt aj rfl) (pH.cellAt ai rfl) ?_;unfold ox;rw[OJ];exact⟨rfl,aE.eM [_,_,_,_,_,_,_,_] pH⟩
theorem OT {α:Type} (a b c e:α) (l:List α):(c::e::b::a::l).Perm (a::b::c::e::l):=
 ((perm_append_comm (l₁:=[c,e]) (l₂:=[b,a])).append_right l).trans (List.Perm.swap a b _)
theorem VD (w:World):F7 w (.slice none 0 0) []:=.inl ⟨⟨_,_,rfl⟩,rfl⟩
def D5 (w0:World) (db:Nat) (d:DK) (l2:List aI) (e:Ending) (w':World):Prop:=
 (d.aW.length<104/\e=.returned (.iface 88 (.int .i64 9))/\aE w0 w' db d l2)∨(104<=d.aW.length/\e=.returned (bH (ib d 0 (bB []) (cd d 1-1)).1)/\aE w0 w' db (ib d 0 (bB []) (cd d 1-1)).2 l2)
theorem Fm {w0 w:World} {db:Nat} {d:DK} {l2:List aI} (h:aE w0 w db d l2) (ju:d.down=false) (Di:d.wr.length<=1000):
 Calls prog 74 #[.pointer (some ⟨db,0,none⟩)] w fun e w'=>D5 w0 db d l2 e w':=by
 have es:=jJ w0 w db d l2 h;obtain⟨n,hn⟩:=aa d.aW.length;unfold D5
 by_cases h104:n<104
 ·rw[hn]at es ⊢;have hz:(n:Int)<104:=by omega
  have ES:=aq es;have HD:=aq h;clear es h hn;go_enter func74,ntmps74;go_wp2_with fail;refine(an ES).mono ?_;rintro e w1 ⟨rfl,rfl⟩;go_wp2_with fail;go_ret;exact .inl ⟨h104,rfl,an HD⟩
 ·have hz:¬(n:Int)<104:=by omega
  have el:=yi h ju (by omega) Di (.slice none 0 0) [] (fun w' _=>VD w') (by decide) (fun c hc=>by cases hc) 0 (by decide) 1 (by decide) (by decide);unfold ox at el;rw[hn]at es el ⊢;have ES:=aq es;clear es h;obtain⟨x,hx⟩:=aa (ib d 0 (bB []) (cd d 1-1));rw[hx]at el ⊢;obtain⟨e1,d1⟩:=x;have EL:=aq el;have WS:104<=n:=by omega
  clear el hx hn;go_enter func74,ntmps74;go_wp2_with fail;refine(an ES).mono ?_;rintro e w1 ⟨rfl,rfl⟩
  cases e1 with
  |none=>
   go_wp2_with fail
   refine(an EL).mono ?_;rintro e w2 ⟨sb,lb,rfl,hD⟩;have HD:=aq hD;clear hD;go_wp2_with fail;go_ret;exact .inr ⟨WS,rfl,aE.eM [_,_] (an HD)⟩
  |some k=>
   go_wp2_with fail
   refine(an EL).mono ?_;rintro e w2 ⟨rfl,hD⟩;have HD:=aq hD;clear hD;go_wp2_with fail;go_ret;exact .inr ⟨WS,rfl,an HD⟩
def gJ (sb db aH:Nat) (v:Value) (L:List bn) (lb aF first av:Nat) (l2:List aI):List aI:=fe sb db aH v lb::aO v L::eN lb db 90 aF first av::l2
def wo (w0:World) (db sb aH:Nat) (v:Value) (L:List bn) (lb aF first av:Nat) (l2:List aI) (d:DK) (e:Ending) (w':World):Prop:=
 match ib d (1-aH) (bB L) (cd d (first+aF)-1)with
 |(none,d')=>e=.returned .nilIface/\∃Ob,aE w0 w' db d' (gJ sb db (1-aH) v L Ob aF (cd d (first+aF)) 0 l2)
 |(some k,d')=>e=.returned (.iface 88 (.int .i64 k))/\aE w0 w' db d' (gJ sb db aH v L lb aF first av l2)
theorem yG {w0 w:World} {db sb aH lb aF first av:Nat} {v:Value} {d:DK} {L:List bn} {l2:List aI} (h:aE w0 w db d (gJ sb db aH v L lb aF first av l2)) (ju:d.down=false) (hlen:104<=d.aW.length) (Di:d.wr.length<=1000) (hh:aH<=1) (hm:aF=d.aW.length-90) (U5:1<=first) (hf:first<=800000) (hn:L.length<=64) (hc:∀c∈L,aR c=none):
 Calls prog 52 #[.pointer (some ⟨sb,0,none⟩)] w fun e w'=>wo w0 db sb aH v L lb aF first av l2 d e w':=by
 have tn:=h.ok.ix;obtain⟨pv,cv,hv⟩:=iP.slice (ke h.hold (v:=v) (L:=L) af);have el:=fun(wx:World) (hx:aE w0 wx db d (gJ sb db aH v L lb aF first av l2))=>yi hx ju hlen Di v L (fun w' hw'=>ke hw' (v:=v) (L:=L) af) hn hc (1-aH) (by omega) (first+aF) (by omega) (by omega)
 have Cx:IntKind.i64.wrap (1-(aH:Int))=((1-aH:Nat):Int):=by rw[sE _ (by omega)];omega
 rw[<-Cx]at el;have en:∀wx:World,aE w0 wx db d (gJ sb db aH v L lb aF first av l2)->Calls prog 98 #[.pointer (some ⟨lb,0,none⟩)] wx fun e w'=>e=.returned (.int .i64 ((first+aF:Nat):Int))/\aE w0 w' db d (gJ sb db aH v L lb aF first av l2):=fun wx hx=>(Ks lb aF first wx (by omega) (by omega) (hx.cellAt ag rfl) (hx.cellAt ag rfl)).mono fun e w' hw=>⟨hw.1,by obtain⟨n,hn⟩:=hw.2;rw[hn];exact hx.drewN n⟩
 have cells:∀(wx:World) (dx:DK),aE w0 wx db dx (gJ sb db aH v L lb aF first av l2)->wx.cell? ⟨sb,0,none⟩=some (.pointer (some ⟨db,0,none⟩))/\wx.cell? ⟨sb,1,none⟩=some (.int .i64 aH)/\wx.cell? ⟨sb,2,none⟩=some v/\wx.cell? ⟨sb,3,none⟩=some (.pointer (some ⟨lb,0,none⟩)):=fun wx dx hx=>⟨hx.cellAt ae rfl,hx.cellAt ae rfl,hx.cellAt ae rfl,hx.cellAt ae rfl⟩
 unfold ox at el;unfold wo;obtain⟨nx,sU⟩:=aa (first+aF)
 rw[sU]at el en ⊢;obtain⟨g,hg⟩:=aa (cd d nx);rw[hg]at el ⊢;obtain⟨x,hx⟩:=aa (ib d (1-aH) (bB L) (g-1));rw[hx]at el ⊢;obtain⟨e1,d1⟩:=x;rw[<-hm]at el;clear hm sU;subst hv;have HC:=aq cells;have EN:=aq en;have HD0:=aq h.drew;have rh:=aq (cells _ _ h.drew)
 cases e1 with
 |some k=>
  simp only at el ⊢;have EL:=aq el;clear hx hg el cells en Cx h;go_enter func52,ntmps52;go_wp2_with fail
  go_region_held (fun w'=>w'.cell? ⟨sb,0,none⟩=some (.pointer (some ⟨db,0,none⟩))/\w'.cell? ⟨sb,1,none⟩=some (.int .i64 aH)/\w'.cell? ⟨sb,2,none⟩=some (.slice pv L.length cv)/\w'.cell? ⟨sb,3,none⟩=some (.pointer (some ⟨lb,0,none⟩))) (first|exact an Tx|exact an xK|exact an rh) ((first|(go_at_call 98;refine(an EN _ (an HD0)).mono ?_;rintro e w6 ⟨rfl,mh⟩;have xK:=aq (an HC _ _ mh);have zH:=aq mh;clear mh)|(go_at_call 97;refine(an EL _ (an zH)).mono ?_;rintro e w7 ⟨rfl,hD7⟩;have Tx:=aq (an HC _ _ hD7);have rl:=aq hD7;clear hD7)))
  all_goals
   go_wp2_with fail
   go_ret;exact⟨rfl,an rl⟩
 |none=>
  simp only at el ⊢;obtain⟨pG,hhf1⟩:=aa (1-aH);rw[hhf1]at el ⊢;clear hhf1;have EL:=aq el;clear hx hg el cells en Cx h;go_enter func52,ntmps52;go_wp2_with fail
  go_region_held (fun w'=>w'.cell? ⟨sb,0,none⟩=some (.pointer (some ⟨db,0,none⟩))/\w'.cell? ⟨sb,1,none⟩=some (.int .i64 aH)/\w'.cell? ⟨sb,2,none⟩=some (.slice pv L.length cv)/\w'.cell? ⟨sb,3,none⟩=some (.pointer (some ⟨lb,0,none⟩))) (first|exact an Tx|exact an xK|exact an rh) ((first|(go_at_call 98;refine(an EN _ (an HD0)).mono ?_;rintro e w6 ⟨rfl,mh⟩;have xK:=aq (an HC _ _ mh);have zH:=aq mh;clear mh)|(go_at_call 97;refine(an EL _ (an zH)).mono ?_;rintro e w7 ⟨Uw,Wb,rfl,hD7⟩;have Tx:=aq (an HC _ _ (aE.eM [_,_] hD7));have rl:=aq hD7;clear hD7)))
  have h0:w7.cell? ⟨Uw,0,none⟩=some (.pointer (some ⟨db,0,none⟩)):=(an rl).cellAt ae rfl;have h1:w7.cell? ⟨Uw,1,none⟩=some (.int .i64 pG):=(an rl).cellAt ae rfl;have h2:w7.cell? ⟨Uw,2,none⟩=some (.slice pv L.length cv):=(an rl).cellAt ae rfl;have h3:w7.cell? ⟨Uw,3,none⟩=some (.pointer (some ⟨Wb,0,none⟩)):=(an rl).cellAt ae rfl;obtain⟨c0,c1,c2,c3⟩:=an Tx;have f0:=(an rl).hold.frozenAt ag 0;have f1:=(an rl).hold.frozenAt ag 1;have f2:=(an rl).hold.frozenAt ag 2
  have f3:=(an rl).hold.frozenAt ag 3;clear rh xK Tx HD0 zH EL EN HC;go_wp2_with fail;go_ret;have s0:=aE.store [_,_] (an rl) 0 (.pointer (some ⟨db,0,none⟩)) _ rfl;have s1:=aE.store [_,_] s0 1 (.int .i64 pG) _ rfl;have s2:=aE.store [_,_] s1 2 (.slice pv L.length cv) _ rfl;have s3:=aE.store [_,_] s2 3 (.pointer (some ⟨Wb,0,none⟩)) _ rfl;have s4:=s3.perm (OT _ _ _ _ _);exact⟨rfl,Wb,s4.sub (.cons_cons _ (.cons_cons _ (.cons_cons _ (.cons _ (.cons _ (.refl _))))))⟩
theorem UI:Gl []:=⟨List.Pairwise.nil,(fun c hc=>by cases hc),(fun c hc=>by cases hc)⟩
theorem Fl {n:Nat} (hn:104<=n):(ib (js n) 0 (bB []) 0).1=none/\(ib (js n) 0 (bB []) 0).2.aW.length=n/\(ib (js n) 0 (bB []) 0).2.left = -1/\dd (ib (js n) 0 (bB []) 0).2 0 0 [] [] 0:=by
 have hlen:(js n).aW.length=n:=by simp[js]
 have Dr:(js n).left<0:=by simp[js]
 have hcut:nG (bB [])=[]:=rfl;have c1:=mc [] (js n) (1+0*44) rfl (by rw[hlen];simp;omega) (fun s hs=>by cases hs);obtain⟨e1,d1,h1⟩:∃e1 d1,dy [] (js n) (1+0*44)=(e1,d1):=⟨_,_,rfl⟩;rw[h1]at c1;unfold ib;rw[hcut,h1]
 rcases c1 with⟨he,g⟩|⟨he,g⟩
 ·simp only at he g;subst he;simp only;have rY:d1.aW.length=n:=by rw[g.aW,eS,hlen]
  obtain⟨e2,d2,h2⟩:∃e2 d2,dy [iJ 0 (bB []).length 0] d1 0=(e2,d2):=⟨_,_,rfl⟩;have c2:=mc [iJ 0 (bB []).length 0] d1 0 g.down (by simp only[length_singleton];omega) (by intro s hs;rw[mem_singleton.1 hs,vF];omega);rw[h2]at c2;rw[h2]
  rcases c2 with⟨he,g2⟩|⟨he,g2⟩
  ·simp only at he g2;have XZ:d2.aW=(js n).aW.set 0 (eF (iJ 0 (bB []).length 0)):=by rw[g2.aW,g.aW];rfl
   have tm:d2.aW.length=n:=by rw[XZ,length_set,hlen]
   have iV:∀x,x≠0->x<n->d2.aW.getD x []=fg:=fun x hx Wg=>by rw[XZ,List.getD,getElem?_set_ne (Ne.symm hx)];simp only[js];rw[getElem?_replicate,if_pos Wg];rfl
   refine⟨he,tm,by simp only;rw[g2.left (by rw[g.left Dr];exact Dr),g.left Dr];rfl,g2.steady,by rw[tm];exact hn,by decide,by rw[XZ,List.getD,getElem?_set_self (by rw[hlen];omega)];rfl,fun i hi=>by simp[bB]at hi,UI,by decide,?_⟩;have og:yL d2 90 (d2.aW.length-90) 1 [] 0:=⟨g2.steady,by omega,Ay _ _,Nat.zero_le _,fun _=>iV 90 (by decide) (by omega)⟩;exact og.rd
  ·exact absurd (by rw[g.left Dr];exact Dr) g2.left
 ·exact absurd Dr g.left
theorem dd.again {d:DK} {aH f1 av:Nat} {L:List bn} {D:List (List bn)} (h:dd d aH f1 L D av) (k:Nat):dd (d.again k) aH f1 L D av:=by
 have e:(d.again k).aW=d.aW:=by unfold DK.again;simp only;rw[h.steady.wr,h.steady.kept];rfl
 exact h.agree ⟨rfl,rfl,rfl⟩ (by rw[e]) fun x _=>by rw[e]
theorem dd.ot {d:DK} {aH f1 av:Nat} {L:List bn} {D:List (List bn)} (h:dd d aH f1 L D av) (n:Int):dd (d.ot n) aH f1 L D av:=
 h.agree (d':=d.ot n) ⟨h.steady.wr,h.steady.kept,h.steady.down⟩ rfl fun x _=>rfl
theorem dd.Ky {d d':DK} {aH f1 av V7:Nat} {L:List bn} {D D':List (List bn)} (h:dd d aH f1 L D av) (hl:d'.aW.length=d.aW.length) (aaM:sC d' 90 (d.aW.length-90) (f1+1) D' V7) (ha:∀x,x<90->d'.aW.getD x []=d.aW.getD x []):dd d' aH f1 L D' V7:=by
 have uw:=eL h.PO.ok;have tn:=h.ix;have hh:=h.hf;exact⟨aaM.steady,by rw[hl];exact h.len,h.hf,by rw[ha 0 (by decide)];exact h.head,fun i hi=>by rw[ha _ (by omega)];exact h.aL i hi,h.PO,h.ix,by rw[hl];exact aaM⟩
structure zj (d:DK) (x:Nat) (v:List UInt8):Prop where
 aW:d.aW.getD x []=v
 kept:d.kept.getD x []=v
 wr:∀y∈d.wr,y.1≠x
theorem zj.bD {d:DK} {x:Nat} {v:List UInt8} (h:zj d x v):zj d.bD x v:=⟨by rw[gi];exact h.aW,by rw[mD];exact h.kept,by rw[jn];exact h.wr⟩
theorem zj.written {d:DK} {x:Nat} {v:List UInt8} (h:zj d x v) (a:Nat) (s:List UInt8) (hx:a≠x):zj (d.written (a:Int) s) x v:=by
 unfold DK.written
 split
 ·exact h
 split
 ·exact h.bD
 ·have hs:=h.bD;refine⟨?_,hs.kept,fun y hy=>?_⟩
  ·simp only[DK.laid,Int.toNat_natCast];rw[List.getD,getElem?_set_ne hx];exact hs.aW
  ·simp only[DK.laid,Int.toNat_natCast,mem_append,mem_singleton]at hy
   rcases hy with hy|rfl
   ·exact hs.wr y hy
   ·exact hx
theorem zj.fP {d:DK} {x:Nat} {v:List UInt8} (h:zj d x v):zj d.fP x v:=by
 unfold DK.fP
 split
 ·exact h.bD
 ·exact⟨h.bD.aW,h.bD.aW,fun y hy=>by simp[DK.xr]at hy⟩
theorem zj.lay {x:Nat} {v:List UInt8}:∀(l:List (List UInt8)) (d:DK) (a:Nat),zj d x v->(x<a∨a+l.length<=x)->zj (dy l d a).2 x v
 |[],d,a,h,hx=>h.fP
 |s::r,d,a,h,hx=>by
  rw[length_cons]at hx;rw[dy];have hw:=h.written a s (by omega)
  cases d.kH (a:Int) s with
  |some e=>exact hw
  |none=>exact zj.lay r _ (a+1) hw (by omega)
theorem zj.put {x:Nat} {v:List UInt8} {d:DK} {fr av aF:Nat} {s0:List UInt8} {r:List (List UInt8)} (h:zj d x v) (hx:x<fr):zj (eT d fr av aF s0 r).2 x v:=by
 have h1:=zj.lay [[]] d (fr+av) h (.inl (by omega));unfold eT
 cases hy:dy [[]] d (fr+av)with
 |mk e1 d1=>
  rw[hy]at h1
  cases e1 with
  |some k=>exact h1
  |none=>
   simp only at h1 ⊢;have h2:=zj.lay (gM av aF r) d1 (fr+(av+1)) h1 (.inl (by omega))
   cases hz:dy (gM av aF r) d1 (fr+(av+1))with
   |mk e2 d2=>
    rw[hz]at h2
    cases e2 with
    |some k=>exact h2
    |none=>exact zj.lay [s0] d2 (fr+av) h2 (.inl (by omega))
theorem zj.add {x:Nat} {v:List UInt8} {d:DK} {fr aF first av:Nat} (h:zj d x v) (l:List bn) (hx:x<fr):zj (lO d fr aF first av l).2.1 x v:=by
 unfold lO
 split
 ·exact h
 split
 ·exact h
 split
 ·exact h
 ·have hp:=h.put (av:=av) (aF:=aF) (s0:=(kx (first+av) l).headD []) (r:=(kx (first+av) l).tail) hx
  split
  ·rename_i he;rw[he]at hp;exact hp
  ·rename_i he;rw[he]at hp;exact hp
theorem zj.again {x:Nat} {v:List UInt8} {d:DK} (h:zj d x v) (k:Nat):(d.again k).aW.getD x []=v:=by
 unfold DK.again;simp only;rw[sR k _ _ _ x h.wr];exact h.kept
theorem mA.off {d:DK} (h:mA d) (x:Nat):zj d x (d.aW.getD x []):=⟨rfl,by rw[h.kept],fun y hy=>by rw[h.wr]at hy;cases hy⟩
theorem dd.add {d:DK} {aH f1 av:Nat} {L:List bn} {D:List (List bn)} (h:dd d aH f1 L D av) (hf:f1<=900000) (hl:d.aW.length<=130) (l:List bn):
 (∃k,k≠10/\lO d 90 (d.aW.length-90) (f1+1) av l=(some k,d,av))∨
 (∃d',lO d 90 (d.aW.length-90) (f1+1) av l=(none,d',av+(l.length+1))/\(d.left<0->d'.left=d.left)/\d'.aW.length=d.aW.length/\dd d' aH f1 L (D++[l]) (av+(l.length+1)))∨
 (∃d',lO d 90 (d.aW.length-90) (f1+1) av l=(some 10,d',av)/\¬d.left<0/\∀k,(d'.again k).aW.length=d.aW.length/\(dd (d'.again k) aH f1 L D av∨dd (d'.again k) aH f1 L (D++[l]) (av+(l.length+1)))):=by
 have UT:=fun x (hx:x<90)=>(h.steady.off x).add (fr:=90) (aF:=d.aW.length-90) (first:=f1+1) (av:=av) l hx
 rcases Pq h.log (by omega) l with⟨k,hk,he⟩|⟨d',he,h2,h3,h4⟩|⟨d',he,h2,h3⟩
 ·exact .inl ⟨k,hk,he⟩
 ·refine .inr (.inl ⟨d',he,h2,h3,h.Ky h3 h4 fun x hx=>?_⟩);have:=(UT x hx).aW;rw[he]at this;exact this
 ·refine .inr (.inr ⟨d',he,h2,fun k=>⟨(h3 k).1,?_⟩⟩)
  have ha:∀x,x<90->(d'.again k).aW.getD x []=d.aW.getD x []:=fun x hx=>by have:=(UT x hx).again k;rw[he]at this;exact this
  rcases(h3 k).2 with h4|h4
  ·exact .inl (h.Ky (h3 k).1 h4 ha)
  ·exact .inr (h.Ky (h3 k).1 h4 ha)
theorem Aw {c y:bn}:∀(L:List bn),y∈da L c->y=c∨y∈L
 |[],h=>by simp[da]at h;exact .inl h
 |x::L,h=>by
  unfold da at h
  split at h
  ·rcases mem_cons.1 h with h|h
   ·exact .inl h
   ·exact .inr h
  split at h
  ·rcases mem_cons.1 h with h|h
   ·exact .inl h
   ·exact .inr (mem_cons_of_mem _ h)
  ·rcases mem_cons.1 h with h|h
   ·exact .inr (by rw[h];exact mem_cons_self)
   ·rcases Aw L h with h|h
    ·exact .inl h
    ·exact .inr (mem_cons_of_mem _ h)
theorem Gl.one {L:List bn} (h:Gl L) {c:bn} (hc:aR c=none):Gl (cP L c):=by
 refine⟨qV h.sorted c,fun y hy=>?_,fun y hy=>?_⟩
 ·unfold cP at hy
  split at hy
  ·exact h.ok y ((mem_filter.1 hy).1)
  ·rcases Aw L hy with rfl|hy
   ·exact hc
   ·exact h.ok y hy
 ·unfold cP at hy
  split at hy
  ·exact h.there y ((mem_filter.1 hy).1)
  ·rename_i hg
   rcases Aw L hy with rfl|hy
   ·simpa using hg
   ·exact h.there y hy
theorem Gl.apply:∀{l L:List bn},Gl L->(∀c∈l,aR c=none)->Gl (cT L l)
 |[],L,h,_=>h
 |c::l,L,h,hc=>Gl.apply (l:=l) (h.one (hc c (by simp))) fun x hx=>hc x (by simp[hx])
theorem Gl.fold:∀{D:List (List bn)} {L:List bn},Gl L->(∀l∈D,∀c∈l,aR c=none)->Gl (mi L D)
 |[],L,h,_=>h
 |l::D,L,h,hc=>Gl.fold (D:=D) (h.apply (hc l (by simp))) fun x hx=>hc x (by simp[hx])
def cM (aF:Nat) (L l:List bn):Option Int:=if 12<l.length then some 2 else match dQ l with
 |some k=>some k
 |none=>if 64<(cT L l).length∨aF<l.length+1 then some 9 else none
def tc (aF av:Nat) (l:List bn):Nat:=(if aF-av<l.length+1 then 0 else av)+(l.length+1)
def mu (w0:World) (db sb aH:Nat) (v:Value) (L:List bn) (aF first av:Nat) (l2:List aI) (d:DK) (l:List bn) (e:Ending) (w':World):Prop:=
 match lO d 90 aF first av l with
 |(none,d',u')=>e=.returned .nilIface/\∃v' Ob,aE w0 w' db d' (gJ sb db aH v' (cT L l) Ob aF first u' l2)
 |(some k,d',u')=>e=.returned (.iface 88 (.int .i64 k))/\∃Ob,aE w0 w' db d' (gJ sb db aH v L Ob aF first u' l2)
def D6 (w0:World) (db sb aH:Nat) (v:Value) (L:List bn) (lb aF first av:Nat) (l2:List aI) (d:DK) (l:List bn) (e:Ending) (w':World):Prop:=
 (∃k,cM aF L l=some k/\e=.returned (.iface 88 (.int .i64 k))/\aE w0 w' db d (gJ sb db aH v L lb aF first av l2))∨
 (cM aF L l=none/\¬aF-av<l.length+1/\mu w0 db sb aH v L aF first av l2 d l e w')∨
 (cM aF L l=none/\aF-av<l.length+1/\((∃k d',ib d (1-aH) (bB L) (cd d (first+aF)-1)=(some k,d')/\e=.returned (.iface 88 (.int .i64 k))/\aE w0 w' db d' (gJ sb db aH v L lb aF first av l2))∨
  (∃d',ib d (1-aH) (bB L) (cd d (first+aF)-1)=(none,d')/\mu w0 db sb (1-aH) v L aF (cd d (first+aF)) 0 l2 d' l e w')))
theorem UH {d d':DK} {aH f1:Nat} {T:List UInt8} (h:ib d aH T f1=(none,d')):d'.wr=[]:=by
 unfold ib at h
 split at h
 ·cases h
 ·rename_i d1 _
  rw[dy]at h
  split at h
  ·cases h
  ·rw[dy]at h;injection h with h1 h2;rw[<-h2];exact uJ _ h1
theorem FE {w0 w:World} {db sb aH lb aF first av:Nat} {v:Value} {d:DK} {L:List bn} {l2:List aI} (h:aE w0 w db d (gJ sb db aH v L lb aF first av l2)) (ju:d.down=false) (hlen:104<=d.aW.length) (Di:d.wr.length<=1000) (hh:aH<=1) (hm:aF=d.aW.length-90) (hum:av<=aF) (U5:1<=first) (hf:first<=800000) (hL:L.length<=64) (wH:∀c∈L,aR c=none) (hs:bf L) (vc:Value) (l:List bn) (hc:∀w',aw w0 w' l2->F7 w' vc l) (hsc:Shaped vc) (hl:l.length<=1000000):
 Calls prog 61 #[.pointer (some ⟨sb,0,none⟩),vc] w fun e w'=>D6 w0 db sb aH v L lb aF first av l2 d l e w':=by
 have tn:=h.ok.ix;have WI:=hc w (aE.eM [_,_,_] h).hold;obtain⟨pc,cc,hvc⟩:=iP.slice WI;subst hvc;obtain⟨n,hn⟩:=aa l.length;have HC:Hid (∀w',aw w0 w' l2->iP w' (.slice pc n cc) n (fun i=>l.getD i CJ)):=fun w' hw'=>by have:=hc w' hw';unfold F7 at this;rw[hn]at this;exact this
 have hcr:=an HC w (aE.eM [_,_,_] h).hold;have HCR:=aq hcr;have e50:=fun(wx:World) (l3:List aI) (hx:aE w0 wx db d (gJ sb db aH v L lb aF first av l3))=>yG hx ju hlen Di hh hm U5 hf hL wH
 have Zu:=fun(wx:World) (l3:List aI) (hx:aE w0 wx db d l3)=>jJ w0 wx db d l3 hx
 have Zt:=fun(wx:World) (l3:List aI) (hx:aE w0 wx db d (gJ sb db aH v L lb aF first av l3))=>GR hx hum (by omega)
 rw[hn]at hl hsc ⊢;have Hn:=aq hn;have HH:=aq h;have Hs:=aq hs;have Hsc:=aq hsc;have E50:=aq e50;have E51:=aq Zt;have hdm:d.aW.length=aF+90:=by omega
 rw[hdm]at Zu;have E15:=aq Zu;have Hsv:=aq (mY h.hold (v:=v) (L:=L) af);have aaK:aF<=130:=by omega
 unfold D6;rw[hn];clear h hs hc hsc WI hcr e50 Zu Zt hdm hm hlen tn ju wH
 by_cases pX:12<n
 ·have hz:(12:Int)<(n:Int):=by omega
  have hF:cM aF L l=some 2:=by unfold cM;rw[hn,if_pos pX]
  have HF:=aq hF;clear hF hn;go_enter func61,ntmps61;go_wp2_with fail;go_ret;exact .inl ⟨2,an HF,rfl,an HH⟩
 have hz:¬(12:Int)<(n:Int):=by omega
 have hF0:(∀k,dQ l=some k->cM aF L l=some k)/\(dQ l=none->cM aF L l=if 64<(cT L l).length∨aF<n+1 then some 9 else none):=⟨fun k hk=>by unfold cM;rw[hn,if_neg pX,hk],fun hk=>by unfold cM;rw[hn,if_neg pX,hk]⟩;have HF0:=aq hF0;clear hF0 hn;go_enter func61,ntmps61;go_wp2_with fail
 go_loopg [17] (n+1) (fun g vi wr=>∃(i:Nat),n-i<g/\i<=n/\vi=.int .i64 i/\Hid (Below w.heap.size w wr)/\Hid (dQ (l.take i)=none))
 case atStart=>exact⟨0,by omega,by omega,rfl,Below.refl _ _,rfl⟩
 case round=>
  obtain⟨i,hg,hi,rfl,HB,HF⟩:=hrel
  by_cases gY:i<n
  ·have mI:(i:Int)<(n:Int):=by omega
   rcases an HCR with⟨_,h0⟩|⟨b,off,c,hv,_,hbW,ct⟩
   ·omega
   injection hv with e1 e2 e3;subst e1 e3;clear e2;obtain⟨t0,t1,t2⟩:=ct i gY;simp only at t0 t1 t2;have q0:=(bP (an HB) (p:=⟨b,off+i*3,none⟩) hbW).trans t0;have q1:=(bP (an HB) (p:=⟨b,off+i*3+1,none⟩) hbW).trans t1;have q2:=(bP (an HB) (p:=⟨b,off+i*3+2,none⟩) hbW).trans t2;have oO:l[i]? = some (l.getD i CJ):=by rw[List.getD,getElem?_eq_getElem (by rw[an Hn];exact gY)];rfl
   obtain⟨pG,ME⟩:=yz oO (an HF);obtain⟨⟨xk,xv,xg⟩,hx⟩:∃x,l.getD i CJ=x:=⟨_,rfl⟩;rw[hx]at q0 q1 q2 pG ME;simp only at q0 q1 q2;have Ub:=fun wx:World=>sq ⟨xk,xv,xg⟩ wx
   unfold MW at Ub;simp only at Ub;have HBa:Hid (∀o,Below w.heap.size w (wr.alloc o)):=fun o=>(an HB).alloc (an HB).size o
   cases wH:aR ⟨xk,xv,xg⟩with
   |some kf=>rw[wH]at Ub ME;simp only[bH]at Ub;have hF:cM aF L l=some kf:=(an HF0).1 _ (ME rfl);have E32:=aq Ub;have HFk:=aq hF;clear Ub pG ME hF oO ct t0 t1 t2 hx wH;go_wp2_with fail;refine(an E32 _).mono ?_;rintro e w2 ⟨rfl,cC⟩;have ri:=aq ((an HH).over ((an HBa _).trans (cC.mono (an HBa _).size)));clear cC E32;go_wp2_with fail;go_ret;exact .inl ⟨kf,an HFk,rfl,an ri⟩
   |none=>
    rw[wH]at Ub pG;simp only[bH]at Ub;have E32:=aq Ub;have HF1:=aq pG;clear Ub pG ME oO ct t0 t1 t2 hx wH;go_wp2_with fail;refine(an E32 _).mono ?_;rintro e w2 ⟨rfl,cC⟩;have Qf:=aq ((an HBa _).trans (cC.mono (an HBa _).size));clear cC E32;go_wp2_with fail
    go_roundg (n-i)
    case measure=>omega
    case rel=>exact⟨i+1,by omega,by omega,by simp,Qf,HF1⟩
  ·have mI:¬(i:Int)<(n:Int):=by omega
   have IU:=an HF;rw[take_of_length_le (by rw[an Hn];omega)]at IU;have h1:=(an HH).over (an HB);have hcr:F7 wr (.slice pc n cc) l:=by have:=an HC wr (aE.eM [_,_,_] h1).hold;unfold F7;rw[an Hn];exact this
   have ea:=vU v (.slice pc n cc) L l wr (ke h1.hold af) hcr (an Hsv) (an Hsc) (an Hs) (by omega) (by rw[an Hn];omega);obtain⟨L',hL'⟩:=aa (cT L l);rw[hL']at ea;have k2:wr.cell? ⟨sb,2,none⟩=some v:=h1.cellAt ae rfl;have hF:cM aF L l=if 64<L'.length∨aF<n+1 then some 9 else none:=by rw[(an HF0).2 IU,hL']
   have EA:=aq ea;have H1:=aq h1;have HFF:=aq hF;have HL':=aq hL';clear ea h1 hcr IU hF hL' HF;go_wp2_with fail;refine(an EA).mono ?_;rintro e w2 ⟨v2,rfl,h2⟩;have OC:=(an H1).join h2;obtain⟨p2,c2,wE,_⟩:=cI (h2.rowAt ae);subst wE;obtain⟨nl,AZ⟩:=aa L'.length;rw[AZ]at OC ⊢;have ri:Hid (aE w0 w2 db d (gJ sb db aH v L lb aF first av (aO (.slice p2 nl c2) L'::l2))):=OC.perm (perm_middle (a:=aO (.slice p2 nl c2) L') (l₁:=[fe sb db aH v lb,aO v L,eN lb db 90 aF first av]) (l₂:=l2))
   have c0:w2.cell? ⟨sb,0,none⟩=some (.pointer (some ⟨db,0,none⟩)):=(an ri).cellAt ae rfl;clear h2 OC EA k2
   by_cases h64:64<nl
   ·have fE:(64:Int)<(nl:Int):=by omega
    have hF:cM aF L l=some 9:=by rw[an HFF,if_pos (.inl (by omega))]
    have HF9:=aq hF;clear hF AZ;go_wp2_with fail;go_ret;exact .inl ⟨9,an HF9,rfl,(an ri).sub (.cons_cons _ (.cons_cons _ (.cons_cons _ (.cons _ (.refl _)))))⟩
   have fE:¬(64:Int)<(nl:Int):=by omega
   have Zu:=an E15 w2 _ (an ri);have PI:=aq Zu;clear Zu
   by_cases TW:aF<n+1
   ·have fD:(aF:Int)<(n:Int)+1:=by omega
    have hF:cM aF L l=some 9:=by rw[an HFF,if_pos (.inr TW)]
    have HF9:=aq hF;clear hF AZ;go_wp2_with fail;refine(an PI).mono ?_;rintro e w3 ⟨rfl,rfl⟩;go_wp2_with fail;go_ret;exact .inl ⟨9,an HF9,rfl,(an ri).sub (.cons_cons _ (.cons_cons _ (.cons_cons _ (.cons _ (.refl _)))))⟩
   have fD:¬(aF:Int)<(n:Int)+1:=by omega
   have hF:cM aF L l=none:=by rw[an HFF,if_neg (fun hx=>by rcases hx with hx|hx<;>omega)]
   have HFn:=aq hF;have Zt:=an E51 w2 _ (an ri);obtain⟨rm,Ka⟩:=aa (aF-av);rw[Ka]at Zt;have TJ:=aq Zt;have Hrm:=aq Ka;clear Zt hF
   by_cases hr:rm<n+1
   ·have Rj:(rm:Int)<(n:Int)+1:=by omega
    clear AZ Ka;go_wp2_with fail;refine(an PI).mono ?_;rintro e w3 ⟨rfl,rfl⟩;go_wp2_with fail;refine(an TJ).mono ?_;rintro e w4 ⟨rfl,n4,qy⟩;have PF:Hid (aE w0 w4 db d (gJ sb db aH v L lb aF first av (aO (.slice p2 nl c2) L'::l2))):=by rw[qy];exact(an ri).drewN n4
    have ec:=an E50 w4 _ (an PF);unfold wo at ec;obtain⟨x,hx⟩:=aa (ib d (1-aH) (bB L) (cd d (first+aF)-1));rw[hx]at ec;obtain⟨y,d1⟩:=x;have HXX:=aq hx
    cases y with
    |some k=>simp only at ec;have EC:=aq ec;clear ec hx qy PF E50 E51 E15 PI TJ ri;go_wp2_with fail;refine(an EC).mono ?_;rintro e w5 ⟨rfl,hD5⟩;have PE:=aq hD5;clear hD5 EC;go_wp2_with fail;go_ret;exact .inr (.inr ⟨an HFn,by rw[an Hrm];exact hr,.inl ⟨k,d1,an HXX,rfl,(an PE).sub (.cons_cons _ (.cons_cons _ (.cons_cons _ (.cons _ (.refl _)))))⟩⟩)
    |none=>
     simp only at ec;have yV:d1.wr.length<=1000:=by rw[UH hx];exact Nat.zero_le _
     obtain⟨q1,q2,q3,q4⟩:=kt d (first+aF);obtain⟨g,sV⟩:=aa (cd d (first+aF));rw[sV]at ec q3 q4;obtain⟨pG,hhf1⟩:=aa (1-aH);rw[hhf1]at ec;have EC:=aq ec;have Hgg:=aq sV;have Hhf:=aq hhf1;have hg9:g<=900000:=by omega
     clear ec hx qy PF E50 E51 E15 PI TJ ri q1 q2 q3 q4 sV hhf1;go_wp2_with fail;refine(an EC).mono ?_;rintro e w5 ⟨rfl,KB,hD5⟩;have PE:=aq hD5;clear hD5 EC;have h6:aE w0 w5 db d1 (eN KB db 90 aF g 0::fe sb db pG v KB::aO v L::aO (.slice p2 nl c2) L'::l2):=(an PE).perm (perm_middle (a:=eN KB db 90 aF g 0) (l₁:=[fe sb db pG v KB,aO v L]) (l₂:=aO (.slice p2 nl c2) L'::l2)).symm;have WI:=an HC w5 (aE.eM [_,_,_,_] h6).hold;have ea:=DU h6 (by omega) (Nat.zero_le _) (by omega) (by omega) (by omega) (.slice pc n cc) n (fun i=>l.getD i CJ) WI (by omega)
     rw[show bO n (fun i=>l.getD i CJ)=l by rw[<-an Hn];exact ko l]at ea;unfold F8 at ea;have k3:w5.cell? ⟨sb,3,none⟩=some (.pointer (some ⟨KB,0,none⟩)):=(an PE).cellAt ae rfl;obtain⟨x,hx⟩:=aa (lO d1 90 aF g 0 l);rw[hx]at ea;obtain⟨e1,d2,u2⟩:=x;simp only at ea;have EA:=aq ea;have HX:=aq hx;clear ea hx WI h6 PE
     cases e1 with
     |some k=>simp only[bH]at EA;go_wp2_with fail;refine(an EA).mono ?_;rintro e w7 ⟨rfl,hD7⟩;have rl:=aq hD7;clear hD7 EA;go_wp2_with fail;go_ret;refine(.inr (.inr ⟨an HFn,by rw[an Hrm];exact hr,.inr ⟨d1,an HXX,?_⟩⟩));rw[an Hgg,an Hhf];unfold mu;rw[an HX];exact⟨rfl,KB,((an rl).perm (perm_middle (a:=eN KB db 90 aF g u2) (l₁:=[fe sb db pG v KB,aO v L]) (l₂:=aO (.slice p2 nl c2) L'::l2))).sub (.cons_cons _ (.cons_cons _ (.cons_cons _ (.cons _ (.refl _)))))⟩
     |none=>
      simp only[bH]at EA;go_wp2_with fail;refine(an EA).mono ?_;rintro e w7 ⟨rfl,hD7⟩;have rl:Hid (aE w0 w7 db d2 (fe sb db pG v KB::aO v L::eN KB db 90 aF g u2::aO (.slice p2 nl c2) L'::l2)):=hD7.perm (perm_middle (a:=eN KB db 90 aF g u2) (l₁:=[fe sb db pG v KB,aO v L]) (l₂:=aO (.slice p2 nl c2) L'::l2));have k2:w7.cell? ⟨sb,2,none⟩=some v:=(an rl).cellAt ae rfl;have f2:w7.frozen? ⟨sb,2,none⟩=false:=(an rl).hold.frozenAt ae 2;clear hD7 EA;go_wp2_with fail;go_ret;refine(.inr (.inr ⟨an HFn,by rw[an Hrm];exact hr,.inr ⟨d1,an HXX,?_⟩⟩))
      rw[an Hgg,an Hhf];unfold mu;rw[an HX];have s2:=aE.store [] (an rl) 2 (.slice p2 nl c2) _ rfl;have s3:=s2.sub (l3:=fe sb db pG (.slice p2 nl c2) KB::eN KB db 90 aF g u2::aO (.slice p2 nl c2) L'::l2) (.cons_cons _ (.cons _ (.refl _)));refine⟨rfl,.slice p2 nl c2,KB,?_⟩;rw[an HL'];exact s3.perm (.cons _ (.swap _ _ _))
   ·have Rj:¬(rm:Int)<(n:Int)+1:=by omega
    clear AZ Ka E50;go_wp2_with fail;refine(an PI).mono ?_;rintro e w3 ⟨rfl,rfl⟩;go_wp2_with fail;refine(an TJ).mono ?_;rintro e w4 ⟨rfl,n4,qy⟩;have PF:Hid (aE w0 w4 db d (gJ sb db aH v L lb aF first av (aO (.slice p2 nl c2) L'::l2))):=by rw[qy];exact(an ri).drewN n4
    clear qy E51 E15 PI TJ ri;have h6:aE w0 w4 db d (eN lb db 90 aF first av::fe sb db aH v lb::aO v L::aO (.slice p2 nl c2) L'::l2):=(an PF).perm (perm_middle (a:=eN lb db 90 aF first av) (l₁:=[fe sb db aH v lb,aO v L]) (l₂:=aO (.slice p2 nl c2) L'::l2)).symm;have WI:=an HC w4 (aE.eM [_,_,_,_] h6).hold;have ea:=DU h6 (by omega) hum (by omega) (by omega) (by omega) (.slice pc n cc) n (fun i=>l.getD i CJ) WI (by omega);rw[show bO n (fun i=>l.getD i CJ)=l by rw[<-an Hn];exact ko l]at ea
    unfold F8 at ea;have k3:w4.cell? ⟨sb,3,none⟩=some (.pointer (some ⟨lb,0,none⟩)):=(an PF).cellAt ae rfl;obtain⟨x,hx⟩:=aa (lO d 90 aF first av l)
    rw[hx]at ea;obtain⟨e1,d2,u2⟩:=x;simp only at ea;have EA:=aq ea;have HX:=aq hx;clear ea hx WI h6 PF
    cases e1 with
    |some k=>
     simp only[bH]at EA;go_wp2_with fail;refine(an EA).mono ?_;rintro e w7 ⟨rfl,hD7⟩;have rl:=aq hD7;clear hD7 EA;go_wp2_with fail;go_ret;refine(.inr (.inl ⟨an HFn,by rw[an Hrm];exact hr,?_⟩))
     skip
     unfold mu;rw[an HX];exact⟨rfl,lb,((an rl).perm (perm_middle (a:=eN lb db 90 aF first u2) (l₁:=[fe sb db aH v lb,aO v L]) (l₂:=aO (.slice p2 nl c2) L'::l2))).sub (.cons_cons _ (.cons_cons _ (.cons_cons _ (.cons _ (.refl _)))))⟩
    |none=>
     simp only[bH]at EA;go_wp2_with fail;refine(an EA).mono ?_;rintro e w7 ⟨rfl,hD7⟩;have rl:Hid (aE w0 w7 db d2 (fe sb db aH v lb::aO v L::eN lb db 90 aF first u2::aO (.slice p2 nl c2) L'::l2)):=hD7.perm (perm_middle (a:=eN lb db 90 aF first u2) (l₁:=[fe sb db aH v lb,aO v L]) (l₂:=aO (.slice p2 nl c2) L'::l2));have k2:w7.cell? ⟨sb,2,none⟩=some v:=(an rl).cellAt ae rfl;have f2:w7.frozen? ⟨sb,2,none⟩=false:=(an rl).hold.frozenAt ae 2;clear hD7 EA;go_wp2_with fail;go_ret;refine(.inr (.inl ⟨an HFn,by rw[an Hrm];exact hr,?_⟩))
     skip
     unfold mu;rw[an HX];have s2:=aE.store [] (an rl) 2 (.slice p2 nl c2) _ rfl;have s3:=s2.sub (l3:=fe sb db aH (.slice p2 nl c2) lb::eN lb db 90 aF first u2::aO (.slice p2 nl c2) L'::l2) (.cons_cons _ (.cons _ (.refl _)));refine⟨rfl,.slice p2 nl c2,lb,?_⟩;rw[an HL'];exact s3.perm (.cons _ (.swap _ _ _))
section
structure ou (d:DK) (aH f1:Nat) (L0:List bn) (D:List (List bn)) (av:Nat) (L:List bn):Prop where
 ok:dd d aH f1 L0 D av
 rows:mi L0 D=L
 oR:∀x∈D,x.length<=12/\∀c∈x,aR c=none
 ix:∀k,(mi L0 (D.take k)).length<=64
variable {d:DK} {aH f1 av:Nat} {L0 L:List bn} {D:List (List bn)}
theorem ou.len (h:ou d aH f1 L0 D av L):L.length<=64:=by
 have:=h.ix D.length;rw[take_length,h.rows]at this;exact this
theorem ou.PO (h:ou d aH f1 L0 D av L):Gl L:=by
 rw[<-h.rows];exact h.ok.PO.fold fun x hx=>(h.oR x hx).2
theorem ou.room (h:ou d aH f1 L0 D av L):av<=d.aW.length-90:=h.ok.log.pre.1
theorem ou.agree {d':DK} (h:ou d aH f1 L0 D av L) (ho:dd d' aH f1 L0 D av):ou d' aH f1 L0 D av L:=⟨ho,h.rows,h.oR,h.ix⟩
theorem ou.fresh {d':DK} {WM g1:Nat} (h:ou d aH f1 L0 D av L) (ho:dd d' WM g1 L [] 0):ou d' WM g1 L [] 0 L:=
 ⟨ho,rfl,(fun x hx=>by cases hx),fun k=>by rw[take_nil];exact h.len⟩
theorem kY {aF:Nat} {l:List bn} (h:cM aF L l=none):l.length<=12/\dQ l=none/\(cT L l).length<=64/\l.length+1<=aF:=by
 unfold cM at h
 split at h
 ·cases h
 rename_i pX
 split at h
 ·cases h
 rename_i hf
 split at h
 ·cases h
 rename_i h9
 exact⟨by omega,hf,by omega,by omega⟩
theorem ou.added {d':DK} {aF:Nat} {l:List bn} {u:Nat} (h:ou d aH f1 L0 D av L) (hc:cM aF L l=none) (ho:dd d' aH f1 L0 (D++[l]) u):ou d' aH f1 L0 (D++[l]) u (cT L l):=by
 obtain⟨c1,c2,c3,c4⟩:=kY hc;refine⟨ho,by rw[uI,h.rows],fun x hx=>?_,fun k=>?_⟩
 ·rcases mem_append.1 hx with hx|hx
  ·exact h.oR x hx
  ·rw[mem_singleton.1 hx];exact⟨c1,uK c2⟩
 ·rcases Nat.lt_or_ge D.length k with hk|hk
  ·rw[take_of_length_le (by rw[length_append,length_singleton];omega),uI,h.rows];exact c3
  ·rw[take_append_of_le_length hk];exact h.ix k
theorem ou.add (h:ou d aH f1 L0 D av L) (hf:f1<=900000) (hl:d.aW.length<=130) {aF:Nat} (hm:d.aW.length-90=aF) {l:List bn} (hc:cM aF L l=none) (hr:¬aF-av<l.length+1):
 (∃d',lO d 90 aF (f1+1) av l=(none,d',av+(l.length+1))/\(d.left<0->d'.left=d.left)/\d'.aW.length=d.aW.length/\ou d' aH f1 L0 (D++[l]) (av+(l.length+1)) (cT L l))∨
 (∃d',lO d 90 aF (f1+1) av l=(some 10,d',av)/\¬d.left<0/\∀k,(d'.again k).aW.length=d.aW.length/\(ou (d'.again k) aH f1 L0 D av L∨ou (d'.again k) aH f1 L0 (D++[l]) (av+(l.length+1)) (cT L l))):=by
 subst hm
 rcases h.ok.add hf hl l with⟨k,hk,he⟩|⟨d',he,h2,h3,h4⟩|⟨d',he,h2,h3⟩
 ·exfalso;obtain⟨c1,c2,c3,c4⟩:=kY hc;obtain⟨s0,r,hdd,XS⟩:=xy (f1+1+av) l;have gX:=yB (n:=f1+1+av) (uK c2);rw[hdd]at gX;have hb:xH d 90 av (d.aW.length-90) s0 r:=⟨h.ok.steady.down,h.ok.log.len,by omega,gX s0 (by simp),fun s hs=>gX s (by simp[hs])⟩
  rcases C3 hb with⟨h1,_⟩|⟨h1,_⟩
  ·have xj:eT d 90 av (d.aW.length-90) s0 r=(none,(eT d 90 av (d.aW.length-90) s0 r).2):=by rw[<-h1]
   rw[xF (by omega) hr c2 hdd xj]at he
   cases he
  ·have xj:eT d 90 av (d.aW.length-90) s0 r=(some 10,(eT d 90 av (d.aW.length-90) s0 r).2):=by rw[<-h1]
   rw[xE (by omega) hr c2 hdd xj]at he;injection he with e1 e2;injection e1 with e1;exact hk e1.symm
 ·exact .inl ⟨d',he,h2,h3,h.added hc h4⟩
 ·refine .inr ⟨d',he,h2,fun k=>⟨(h3 k).1,?_⟩⟩
  rcases(h3 k).2 with h4|h4
  ·exact .inl (h.agree h4)
  ·exact .inr (h.added hc h4)
theorem ou.check (h:ou d aH f1 L0 D av L) (n:Nat) (hn:1<=n):
 (∃d',ib d (1-aH) (bB L) (cd d n-1)=(none,d')/\(d.left<0->d'.left=d.left)/\d'.aW.length=d.aW.length/\ou d' (1-aH) (cd d n-1) L [] 0 L)∨
 (∃d',ib d (1-aH) (bB L) (cd d n-1)=(some 10,d')/\¬d.left<0/\∀k,(d'.again k).aW.length=d.aW.length/\(ou (d'.again k) aH f1 L0 D av L∨ou (d'.again k) (1-aH) (cd d n-1) L [] 0 L)):=by
 obtain⟨q1,q2,q3,q4⟩:=kt d n;have he:cd d n-1+1=cd d n:=by omega
 rcases Od h.ok L h.PO h.len (cd d n-1) (by rw[he];exact⟨q1,q2⟩)with⟨h1,h2,h3,h4⟩|⟨h1,h2,h3⟩
 ·exact .inl ⟨_,by rw[<-h1],h3,h2,h.fresh h4⟩
 ·refine .inr ⟨_,by rw[<-h1],h2,fun k=>⟨(h3 k).1,?_⟩⟩
  rcases(h3 k).2 with h4|h4
  ·exact .inl (h.agree h4)
  ·exact .inr (h.fresh h4)
theorem ou.again (h:ou d aH f1 L0 D av L) (k:Nat):ou (d.again k) aH f1 L0 D av L:=h.agree (h.ok.again k)
theorem ou.ot (h:ou d aH f1 L0 D av L) (n:Int):ou (d.ot n) aH f1 L0 D av L:=h.agree (h.ok.ot n)
theorem Ku {n:Nat} (hn:104<=n):cd (js n) 1=1:=by
 have hlen:(js n).aW.length=n:=by simp[js]
 have og:yL (js n) 90 ((js n).aW.length-90) 1 [] 0:=⟨⟨rfl,rfl,rfl⟩,by omega,Ay _ _,Nat.zero_le _,fun _=>by simp only[js];rw[List.getD,getElem?_replicate,if_pos (by omega)];rfl⟩;have:=og.rd.deeds;unfold cd;rw[if_pos this]
theorem K6 {n:Nat} (hn:104<=n):∃d',ib (js n) 0 (bB []) (cd (js n) 1-1)=(none,d')/\d'.aW.length=n/\d'.left = -1/\ou d' 0 0 [] [] 0 []:=by
 rw[Ku hn];obtain⟨h1,h2,h3,h4⟩:=Fl hn;exact⟨_,by rw[<-h1],h2,h3,h4,rfl,(fun x hx=>by cases hx),fun k=>by rw[take_nil];decide⟩
end
structure q8 (w0 w:World) (db sb:Nat) (d:DK) (n f1 av:Nat) (L:List bn) (l2:List aI):Prop where
 sto:∃aH L0 D v lb,ou d aH f1 L0 D av L/\aE w0 w db d (gJ sb db aH v L lb (n-90) (f1+1) av l2)
 len:d.aW.length=n
theorem q8.ix {w0 w:World} {db sb:Nat} {d:DK} {n f1 av:Nat} {L:List bn} {l2:List aI} (h:q8 w0 w db sb d n f1 av L l2):n<=130/\104<=n/\av<=n-90/\L.length<=64/\bf L/\d.down=false:=by
 obtain⟨aH,L0,D,v,lb,h1,h2⟩:=h.sto;have:=h.len;have h3:=h2.ok.ix;have h4:=h1.ok.len;have h5:=h1.room;exact⟨by omega,by omega,by omega,h1.len,h1.PO.sorted,h1.ok.steady.down⟩
def lT (d:DK) (n f1:Nat) (P:List bn->Prop):Prop:=d.wr.length<=1000/\∀k,(d.again k).aW.length=n/\∃aH kc L0 D av L,ou (d.again k) aH kc L0 D av L/\P L/\kc<=f1
theorem KC (d:DK) (aH:Nat) (T:List UInt8) (f1:Nat):(ib d aH T f1).2.wr.length<=d.wr.length+(nG T).length+1:=by
 have h1:=lG (nG T) d (1+aH*44);unfold ib
 split
 ·rename_i e d1 he
  rw[he]at h1;simp only at h1 ⊢;omega
 ·rename_i d1 he
  rw[he]at h1;have h2:=lG [iJ aH T.length f1] d1 0;simp only[length_singleton]at h1 h2;omega
theorem ou.cut {d:DK} {aH f1 av:Nat} {L0 L:List bn} {D:List (List bn)} (h:ou d aH f1 L0 D av L) {hf g:Nat} {k:Int} {d':DK} (he:ib d hf (bB L) g=(some k,d')):d'.wr.length<=1000:=by
 have h1:=KC d hf (bB L) g;have h2:=eL h.PO.ok;have h3:=h.len;rw[he,h.ok.steady.wr,oo]at h1;simp only[length_nil]at h1;omega
theorem ou.LZ {d:DK} {aH f1 av:Nat} {L0 L:List bn} {D:List (List bn)} (h:ou d aH f1 L0 D av L) {aF first u:Nat} {l:List bn} (hl:l.length<=12) {k:Int} {d':DK} {u':Nat} (he:lO d 90 aF first u l=(some k,d',u')):d'.wr.length<=1000:=by
 have h1:=LF d 90 aF first u l
 rw[he,h.ok.steady.wr]at h1;simp only[length_nil]at h1;omega
theorem Me {w0 w:World} {db:Nat} {d:DK} {l2:List aI} {aH f1 av n:Nat} {L0 L:List bn} {D:List (List bn)} (h:aE w0 w db d l2) (hs:ou d aH f1 L0 D av L) (hn:d.aW.length=n) (hf:f1<=900000):
 Calls prog 23 #[.pointer (some ⟨db,0,none⟩)] w fun e w'=>∃sb,e=.returned (.tuple #[.pointer (some ⟨sb,0,none⟩),.nilIface])/\q8 w0 w' db sb d n f1 av L l2:=by
 refine(Hj h hs.ok.steady.down hs.ok.len aH f1 hs.ok.hf hf L0 hs.ok.ix hs.ok.PO hs.ok.head hs.ok.aL D av hs.ok.log.deeds hs.ok.log.av (fun x hx=>by have:=(hs.oR x hx).1;omega) hs.ix).mono ?_;rintro e w' ⟨sb,lb,v,he,hD⟩;rw[hs.rows,hn]at hD;exact⟨sb,he,⟨aH,L0,D,v,lb,hs,hD⟩,hn⟩
theorem OU {w0 w:World} {db:Nat} {l2:List aI} {n:Nat} (hn:n<=130) (h:aE w0 w db (js n) l2):
 Calls prog 74 #[.pointer (some ⟨db,0,none⟩)] w fun e w'=>(n<104/\e=.returned (.iface 88 (.int .i64 9))/\aE w0 w' db (js n) l2)∨(104<=n/\e=.returned .nilIface/\∃d',aE w0 w' db d' l2/\ou d' 0 0 [] [] 0 []/\d'.aW.length=n/\d'.left = -1):=by
 have hlen:(js n).aW.length=n:=by simp[js]
 refine(Fm h rfl (Nat.zero_le _)).mono ?_;rintro e w' (⟨h1,h2,h2'⟩|⟨h1,h2,h3⟩)
 ·rw[hlen]at h1;exact .inl ⟨h1,h2,h2'⟩
 ·rw[hlen]at h1;obtain⟨d',e1,e2,e3,e4⟩:=K6 h1;rw[e1]at h2 h3;exact .inr ⟨h1,h2,d',h3,e4,e2,e3⟩
theorem SU {w0 w:World} {db sb:Nat} {d:DK} {n f1 av:Nat} {L:List bn} {l2:List aI} (h:q8 w0 w db sb d n f1 av L l2) (hf:f1<=700000):
 Calls prog 52 #[.pointer (some ⟨sb,0,none⟩)] w fun e w'=>(e=.returned .nilIface/\∃d' kc,q8 w0 w' db sb d' n kc 0 L l2/\kc<=f1+100/\(d.left<0->d'.left=d.left))∨
  (e=.returned (.iface 88 (.int .i64 10))/\¬d.left<0/\∃d',aE w0 w' db d' l2/\lT d' n (f1+100) fun L'=>L'=L):=by
 obtain⟨q1,q2,q3,q4,q5,q6⟩:=h.ix;obtain⟨aH,L0,D,v,lb,h1,h2⟩:=h.sto;have hlen:=h.len;have Di:d.wr.length<=1000:=by rw[h1.ok.steady.wr];exact Nat.zero_le _
 obtain⟨p1,p2,p3,p4⟩:=kt d (f1+1+(n-90));have he:cd d (f1+1+(n-90))-1+1=cd d (f1+1+(n-90)):=by omega
 refine(yG h2 q6 (by omega) Di h1.ok.hf (by omega) (by omega) (by omega) q4 h1.PO.ok).mono ?_;intro e w' hE;unfold wo at hE
 rcases h1.check (f1+1+(n-90)) (by omega)with⟨d',g1,g2,g3,g4⟩|⟨d',g1,g2,g3⟩
 ·rw[g1]at hE;obtain⟨rfl,Ob,hD⟩:=hE;rw[<-he]at hD;exact .inl ⟨rfl,d',_,⟨⟨1-aH,L,[],v,Ob,g4,hD⟩,g3.trans hlen⟩,by omega,g2⟩
 ·rw[g1]at hE;obtain⟨rfl,hD⟩:=hE;refine .inr ⟨rfl,g2,d',aE.eM [_,_,_] hD,h1.cut g1,fun k=>⟨(g3 k).1.trans hlen,?_⟩⟩
  rcases(g3 k).2 with g4|g4
  ·exact⟨_,_,_,_,_,_,g4,rfl,by omega⟩
  ·exact⟨_,_,_,_,_,_,g4,rfl,by omega⟩
theorem Pj {w0 w:World} {db sb:Nat} {d:DK} {n f1 av:Nat} {L:List bn} {l2:List aI} (h:q8 w0 w db sb d n f1 av L l2) (hf:f1<=700000) (vc:Value) (l:List bn) (hc:∀w',aw w0 w' l2->F7 w' vc l) (hsc:Shaped vc) (hl:l.length<=1000000):
 Calls prog 61 #[.pointer (some ⟨sb,0,none⟩),vc] w fun e w'=>
  (∃k,cM (n-90) L l=some k/\e=.returned (.iface 88 (.int .i64 k))/\q8 w0 w' db sb d n f1 av L l2)∨
  (cM (n-90) L l=none/\e=.returned .nilIface/\∃d' kc,q8 w0 w' db sb d' n kc (tc (n-90) av l) (cT L l) l2/\kc<=f1+100/\(d.left<0->d'.left=d.left))∨
  (cM (n-90) L l=none/\e=.returned (.iface 88 (.int .i64 10))/\¬d.left<0/\∃d',aE w0 w' db d' l2/\lT d' n (f1+100) fun L'=>L'=L∨L'=cT L l):=by
 obtain⟨q1,q2,q3,q4,q5,q6⟩:=h.ix;obtain⟨aH,L0,D,v,lb,h1,h2⟩:=h.sto;have hlen:=h.len;have Di:d.wr.length<=1000:=by rw[h1.ok.steady.wr];exact Nat.zero_le _
 obtain⟨p1,p2,p3,p4⟩:=kt d (f1+1+(n-90));have he:cd d (f1+1+(n-90))-1+1=cd d (f1+1+(n-90)):=by omega
 refine(FE h2 q6 (by omega) Di h1.ok.hf (by omega) q3 (by omega) (by omega) q4 h1.PO.ok q5 vc l hc hsc hl).mono ?_;rintro e w' (⟨k,c1,c2,c3⟩|⟨c1,c2,c3⟩|⟨c1,c2,c3⟩)
 ·exact .inl ⟨k,c1,c2,⟨aH,L0,D,v,lb,h1,c3⟩,hlen⟩
 ·unfold mu at c3;have hU:tc (n-90) av l=av+(l.length+1):=by unfold tc;rw[if_neg c2]
  rcases h1.add (by omega) (by omega) (by rw[hlen]) c1 c2 with⟨d',g1,g2,g3,g4⟩|⟨d',g1,g2,g3⟩
  ·rw[g1]at c3;obtain⟨rfl,v',Ob,hD⟩:=c3;exact .inr (.inl ⟨c1,rfl,d',f1,⟨⟨aH,L0,_,v',Ob,by rw[hU];exact g4,by rw[hU];exact hD⟩,g3.trans hlen⟩,by omega,g2⟩)
  ·rw[g1]at c3;obtain⟨rfl,Ob,hD⟩:=c3;refine .inr (.inr ⟨c1,rfl,g2,d',aE.eM [_,_,_] hD,h1.LZ (kY c1).1 g1,fun k=>⟨(g3 k).1.trans hlen,?_⟩⟩)
   rcases(g3 k).2 with g4|g4
   ·exact⟨_,_,_,_,_,_,g4,.inl rfl,by omega⟩
   ·exact⟨_,_,_,_,_,_,g4,.inr rfl,by omega⟩
 ·rcases h1.check (f1+1+(n-90)) (by omega)with⟨d1,g1,g2,g3,g4⟩|⟨d1,g1,g2,g3⟩
  ·rcases c3 with⟨k,d',e1,_⟩|⟨d',e1,c3⟩
   ·rw[g1]at e1;cases e1
   rw[g1]at e1;injection e1 with _ e1;subst e1;have hU:tc (n-90) av l=0+(l.length+1):=by unfold tc;rw[if_pos c2]
   unfold mu at c3;rw[<-he]at c3;have nR:¬n-90-0<l.length+1:=by have:=(kY c1).2.2.2;omega
   rcases g4.add (by omega) (by omega) (by rw[g3,hlen]) c1 nR with⟨d',k1,k2,k3,k4⟩|⟨d',k1,k2,k3⟩
   ·rw[k1]at c3;obtain⟨rfl,v',Ob,hD⟩:=c3;exact .inr (.inl ⟨c1,rfl,d',_,⟨⟨1-aH,L,_,v',Ob,by rw[hU];exact k4,by rw[hU];exact hD⟩,k3.trans (g3.trans hlen)⟩,by omega,fun hx=>(k2 (by rw[g2 hx];exact hx)).trans (g2 hx)⟩)
   ·rw[k1]at c3;obtain⟨rfl,Ob,hD⟩:=c3;refine .inr (.inr ⟨c1,rfl,fun hx=>k2 (by rw[g2 hx];exact hx),d',aE.eM [_,_,_] hD,g4.LZ (kY c1).1 k1,fun k=>⟨(k3 k).1.trans (g3.trans hlen),?_⟩⟩)
    rcases(k3 k).2 with k4|k4
    ·exact⟨_,_,_,_,_,_,k4,.inl rfl,by omega⟩
    ·exact⟨_,_,_,_,_,_,k4,.inr rfl,by omega⟩
  ·rcases c3 with⟨k,d',e1,rfl,hD⟩|⟨d',e1,c3⟩
   ·rw[g1]at e1;injection e1 with e0 e1;injection e0 with e0;subst e0;subst e1;refine .inr (.inr ⟨c1,rfl,g2,d1,aE.eM [_,_,_] hD,h1.cut g1,fun k=>⟨(g3 k).1.trans hlen,?_⟩⟩)
    rcases(g3 k).2 with g4|g4
    ·exact⟨_,_,_,_,_,_,g4,.inl rfl,by omega⟩
    ·exact⟨_,_,_,_,_,_,g4,.inl rfl,by omega⟩
   ·rw[g1]at e1;cases e1
theorem q8.Fv {w0 w:World} {db sb:Nat} {d:DK} {n f1 av:Nat} {L:List bn} {l2:List aI} (h:q8 w0 w db sb d n f1 av L l2):lT d n f1 fun L'=>L'=L:=by
 obtain⟨aH,L0,D,v,lb,h1,h2⟩:=h.sto;refine⟨by rw[h1.ok.steady.wr];exact Nat.zero_le _,fun k=>⟨?_,aH,f1,L0,D,av,L,h1.again k,rfl,Nat.le_refl _⟩⟩;unfold DK.again;simp only;rw[kr,h1.ok.steady.kept];exact h.len
theorem NJ {w0 w:World} {db sb:Nat} {d:DK} {n f1 av:Nat} {L:List bn} {l2:List aI} (h:q8 w0 w db sb d n f1 av L l2) (hf:f1<=900000):
 Calls prog 23 #[.pointer (some ⟨db,0,none⟩)] w fun e w'=>∃PM,e=.returned (.tuple #[.pointer (some ⟨PM,0,none⟩),.nilIface])/\∃aH v lb,q8 w0 w' db PM d n f1 av L (gJ sb db aH v L lb (n-90) (f1+1) av l2):=by
 obtain⟨aH,L0,D,v,lb,h1,h2⟩:=h.sto;refine(Me h2 h1 h.len hf).mono ?_;rintro e w' ⟨PM,he,hI⟩;exact⟨PM,he,aH,v,lb,hI⟩
theorem q8.sub {w0 w:World} {db sb:Nat} {d:DK} {n f1 av:Nat} {L:List bn} {l2 l3:List aI} (h:q8 w0 w db sb d n f1 av L l2) (hs:l3.Sublist l2):q8 w0 w db sb d n f1 av L l3:=by
 obtain⟨aH,L0,D,v,lb,h1,h2⟩:=h.sto;exact⟨⟨aH,L0,D,v,lb,h1,h2.sub (.cons_cons _ (.cons_cons _ (.cons_cons _ hs)))⟩,h.len⟩
theorem q8.hold {w0 w:World} {db sb:Nat} {d:DK} {n f1 av:Nat} {L:List bn} {l2:List aI} (h:q8 w0 w db sb d n f1 av L l2):aw w0 w l2:=by
 obtain⟨aH,L0,D,v,lb,h1,h2⟩:=h.sto;exact(aE.eM [_,_,_] h2).hold
theorem q8.join {w0 w w':World} {db sb:Nat} {d:DK} {n f1 av:Nat} {L:List bn} {l2:List aI} {r:aI} (h:q8 w0 w db sb d n f1 av L l2) (hr:aw w w' [r]):q8 w0 w' db sb d n f1 av L (r::l2):=by
 obtain⟨aH,L0,D,v,lb,h1,h2⟩:=h.sto;refine⟨⟨aH,L0,D,v,lb,h1,(h2.join hr).perm ?_⟩,h.len⟩;exact perm_middle (a:=r) (l₁:=[fe sb db aH v lb,aO v L,eN lb db 90 (n-90) (f1+1) av]) (l₂:=l2)
theorem Ux {w0 w:World} {db sb:Nat} {d:DK} {n f1 av:Nat} {L:List bn} {l2:List aI} (h:q8 w0 w db sb d n f1 av L l2):
 Calls prog 24 #[.pointer (some ⟨sb,0,none⟩)] w fun e w'=>∃v',e=.returned v'/\aw w w' [aO v' L]:=by
 obtain⟨q1,q2,q3,q4,q5,q6⟩:=h.ix;obtain⟨aH,L0,D,v,lb,h1,h2⟩:=h.sto;exact GP h2 (by omega)
end Go.Proofs.YtphcnmlbieokoaaGreatDoor.S
