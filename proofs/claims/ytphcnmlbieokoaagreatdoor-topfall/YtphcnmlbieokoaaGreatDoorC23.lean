import Derived.Test.YtphcnmlbieokoaaGreatDoorC22
set_option maxRecDepth 100000
set_option maxHeartbeats 16000000
set_option linter.unusedVariables false
set_option linter.unusedSimpArgs false
namespace Go.Proofs.YtphcnmlbieokoaaGreatDoor.S
open Go.RowKit Go.Lib List Go.Proofs.Tryz
section
variable {w0 w w':World} {db mt:Nat} {d:DK} {k f1:Nat} {N:List T.NV} {F:T.aC} {ar:Int} {l:List T.aI}
theorem pw (hR:bF w0) (h:jZ w0 w db mt d k f1 N F ar l) (hk:k<=60) (hf:f1<=700000) (a:T.gC) (uk:Int) (cp:Option Addr) (cn cc:Nat) (hs:a.s.size<=4000000000) (ht:a.t.size<=4000000000):
 Calls prog 13 #[.pointer (some ⟨mt,0,none⟩),.agg (Pr a uk cp cn cc).toArray] w fun e w'=>B3 w0 w' db mt d k f1 N F ar a l e:=by
 obtain⟨B,hB⟩:=aa w.heap.size;have h1:=h.aY 40 (Pr a uk cp cn cc);rw[hB]at h1;have hc:=NW hR h1 hk hf a uk cp cn cc ae hs ht;have HC:=aq hc;clear hc h1 h hR
 show Calls prog 13 #[.pointer (some ⟨mt,0,none⟩),.agg #[.string a.aA,.string a.s,.string a.t,.int .i64 a.n,.int .u64 uk,.slice cp cn cc]] w _;go_enter func13,ntmps13;go_wp2_with fail;refine(an HC).mono ?_;rintro e w2 ⟨o,N',F',N1,F1,n1,g1,g2,g3,g4⟩;have fgt:∀{d k f1 N F ar},jZ w0 w2 db mt d k f1 N F ar (.cell B 40 (Pr a uk cp cn cc)::l)->jZ w0 w2 db mt d k f1 N F ar l:=fun h=>h.re (fun x=>by simp only[T.ax];omega) (fun r hr=>by simp[hr])
 have HE:Hid (B3 w0 w2 db mt d k f1 N F ar a l e):=by
  refine⟨o,N',F',N1,F1,n1,g1,g2,g3,?_⟩
  rcases g4 with⟨t,v,he,hI,hj⟩|⟨ho,he,N2,F2,d',kc,s2,hI,x1,x2⟩|⟨ho,he,hn,d',L,R,m1,m2,hD,hf⟩
  ·exact .inl ⟨t,v,he,fgt hI,hj⟩
  ·exact .inr (.inl ⟨ho,he,N2,F2,d',kc,s2,fgt hI,x1,x2⟩)
  ·exact .inr (.inr ⟨ho,he,hn,d',L,R,m1,m2,hD.eM (fun x=>by simp only[T.ax];omega) (fun r hr=>by simp[hr]),hf⟩)
 have he:∃t v,e=.returned (.iface t v)∨e=.returned .nilIface:=by
  rcases g4 with⟨t,v,he,hI⟩|⟨ho,he,_⟩|⟨ho,⟨t,v,he⟩,_⟩
  ·exact⟨t,v,.inl he⟩
  ·exact⟨0,.nilIface,.inr he⟩
  ·exact⟨t,v,.inl he⟩
 obtain⟨t,v,rfl|rfl⟩:=he
 ·clear g1 g2 g3 g4 fgt HC;go_wp2_with fail;go_ret;exact an HE
 ·clear g1 g2 g3 g4 fgt HC;go_wp2_with fail;go_ret;exact an HE
end
section
variable {w0 w w':World} {db mt:Nat} {d:DK} {k f1:Nat} {N:List T.NV} {F:T.aC} {ar:Int} {l:List T.aI}
theorem xt:∀{l:List bn},(∀c∈l,aR c=none)->dQ l=none
 |[],_=>rfl
 |c::l,h=>by unfold dQ;rw[h c (by simp)];exact xt fun x hx=>h x (by simp[hx])
theorem AI (tb:Nat):T.rowsOf [(tb,[])] 2 [T.bS tb]=[T.gw 2,T.dN (T.bS tb)]:=by
 show T.gw 2::([T.bS tb].flatMap (T.cY [(tb,[])]))=_
 have:T.cY [(tb,[])] (T.bS tb)=[T.dN (T.bS tb)]:=by
  unfold T.cY
  have:T.bo [(tb,[])] (T.bS tb)=[]:=by unfold T.bo T.bp T.bS;simp[T.aX]
  rw[this];rfl
 simp[this]
theorem wT (tb:Nat):aR (T.gw 2)=none/\aR (T.dN (T.bS tb))=none:=⟨by kernel_rfl,by kernel_rfl⟩
theorem Kt {R:List bn} {tb:Nat} (h:zk R 0 [T.bS tb] [(tb,[])] 2):cM 20 [] R=none/\cT [] R=R:=by
 obtain⟨h1,h2,h3⟩:=ki h (by decide);have hl:R.length=2:=by rw[h.perm.length_eq,AI];rfl
 have ha:cT [] R=R:=by
  have:=BI (A:=[]) List.Pairwise.nil h1 h2
  rwa [show dA [] R=R by unfold dA;rfl]at this
 have hf:dQ R=none:=xt fun c hc=>by
  have:=h.perm.mem_iff.1 hc;rw[AI]at this
  rcases mem_cons.1 this with rfl|this
  ·exact(wT tb).1
  ·rw[mem_singleton.1 this];exact(wT tb).2
 refine⟨?_,ha⟩;unfold cM;rw[if_neg (by omega),hf];simp only;rw[ha,if_neg (by omega)]
theorem Cs (hR:bF w0) (h:jg w0 w db (js 110) l):
 Calls prog 37 #[.pointer (some ⟨db,0,none⟩)] w fun e w'=>e=.returned .nilIface/\∃sb d' f1 av L tb,fN w0 w' db sb d' f1 av L l/\zk L 0 [T.bS tb] [(tb,[])] 2/\d'.left = -1/\f1<=100:=by
 have hc:=h.format;have HC:=aq hc;have HR:=aq hR;clear hc h hR;go_enter func37,ntmps37;go_wp2_with fail;refine(an HC).mono ?_;rintro e w1 ⟨rfl,d1,h1,rV,rY,Mw⟩;have ho:=h1.open rV rY (by decide);have HO:=aq ho;have Hn:=aq Mw;clear ho h1 rV rY Mw HC;go_wp2_with fail;refine(an HO).mono ?_;rintro e w2 ⟨sb,rfl,h2⟩;obtain⟨tp,k1,k2⟩:=h2.back;have hnw:=T.I5 k1 (T.H0.below k1).size;have HN:=aq hnw;have HK:=aq k2;clear hnw h2 k1 k2 HO;go_wp2_with fail;refine(an HN).mono ?_;rintro e w3 ⟨fb,mb,tb,rfl,h3⟩;have hr:=T.lC (an HR) h3 (cj (T.Bf tb) (by decide))
 have J5:=aq hr;clear hr h3 HN;go_wp2_with fail;refine(an J5).mono ?_;rintro e w4 ⟨v,R,rfl,hp,hs,rs,hF,h4⟩;have hM:zk R 0 [T.bS tb] [(tb,[])] 2:=⟨hp,hs,T.Bf tb⟩;obtain⟨x1,x2⟩:=Kt hM;obtain⟨_,_,J2⟩:=ki hM (by decide);have s4:=an HK w4 (T.cL v R::l) (eD h4 (fun x=>by simp only[T.ax,T.ay];omega) (fun r hr=>by grind));have lJ:=s4.SP (by decide) (vc:=v) (R:=R) ae (by omega);have LU:=aq lJ;have HX:=aq (show cM 20 [] R=none/\cT [] R=R from⟨x1,x2⟩);have HM:=aq hM
 clear lJ s4 x1 x2 hM J2 h4 hp hs hF HK J5;go_wp2_with fail;refine(an LU).mono ?_;rintro e w5 (⟨k7,h7,_⟩|⟨_,rfl,d',kc,h8,hf',Ww⟩|⟨_,_,AZ,_⟩)
 ·rw[(an HX).1]at h7;cases h7
 ·rw[(an HX).2]at h8
  have HE:=aq (show ∃sb d' f1 av L tb,fN w0 w5 db sb d' f1 av L l/\zk L 0 [T.bS tb] [(tb,[])] 2/\d'.left = -1/\f1<=100 from
   ⟨sb,d',kc,_,R,tb,h8.eM (fun x=>by simp only[T.ax];omega) (fun r hr=>by simp[hr]),an HM,by rw[Ww (by rw[an Hn];decide)];exact an Hn,by omega⟩)
  clear h8 hf' Ww LU HX HM Hn;go_wp2_with fail;go_ret;exact⟨rfl,an HE⟩
 ·have:=an Hn;omega
theorem oE (hR:bF w0) (h:T.H0 w0 w l):
 Calls prog 17 #[] w fun e w'=>∃db mt N F d f1 tb,e=.returned (.tuple #[.pointer (some ⟨db,0,none⟩),.pointer (some ⟨mt,0,none⟩),.bool true])/\T.eX [T.bS tb] [(tb,[])] N F/\jZ w0 w' db mt d 0 f1 N F 2 l/\d.left = -1/\f1<=100:=by
 have hc:=Vu h;have HC:=aq hc;have HR:=aq hR;clear hc h hR;go_enter func17,ntmps17;go_wp2_with fail;refine(an HC).mono ?_;rintro e w1 ⟨db,rfl,h1⟩;have hf:=Cs (an HR) h1;have HF:=aq hf;clear hf h1 HC;go_wp2_with fail;refine(an HF).mono ?_;rintro e w2 ⟨rfl,sb,d,f1,av,L,tb,h2,hM,hl,pG⟩;have ho:=qo (an HR) hM (cj hM.oR (by decide)) (h2.QG (by omega));have HO:=aq ho;have HL:=aq (show d.left = -1/\f1<=100 from⟨hl,pG⟩);clear ho h2 hM hl pG HF;go_wp2_with fail;refine(an HO).mono ?_;rintro e w3 ⟨mt,N',F',rfl,hs,h3⟩
 have HE:=aq (show T.eX [T.bS tb] [(tb,[])] N' F'/\jZ w0 w3 db mt d 0 f1 N' F' 2 l from⟨hs,h3⟩);clear hs h3 HO;go_wp2_with fail;go_ret3;exact⟨db,mt,N',F',d,f1,tb,rfl,(an HE).1,(an HE).2,(an HL).1,(an HL).2⟩
end
theorem VE (n:Nat):∀A B:List bn,A.length+B.length=n->∀c∈dA A B,c∈B∨∃x∈A,c=jM x:=by
 induction n using Nat.strongRecOn with
 |_ n ih=>
 intro A B hn c hc
 match A,B with
 |[],B=>exact .inl (by rwa [show dA [] B=B by unfold dA;rfl]at hc)
 |x::a,[]=>
  rw[dA]at hc
  rcases mem_cons.1 hc with rfl|hc
  ·exact .inr ⟨x,by simp,rfl⟩
  ·rcases ih a.length (by simp at hn;omega) a [] (by simp) c hc with h|⟨z,hz,e⟩
   ·cases h
   ·exact .inr ⟨z,by simp[hz],e⟩
 |x::a,y::b=>
  have h1:=ih (a.length+(b.length+1)) (by simp at hn;omega) a (y::b) (by simp) c;have h2:=ih (a.length+1+b.length) (by simp at hn;omega) (x::a) b (by simp) c;have h3:=ih (a.length+b.length) (by simp at hn;omega) a b (by simp) c;rw[dA]at hc
  split at hc
  ·rcases mem_cons.1 hc with rfl|hc
   ·exact .inr ⟨x,by simp,rfl⟩
   ·rcases h1 hc with h|⟨z,hz,e⟩
    ·exact .inl h
    ·exact .inr ⟨z,by simp[hz],e⟩
  split at hc
  ·rcases mem_cons.1 hc with rfl|hc
   ·exact .inl (by simp)
   ·rcases h2 hc with h|⟨z,hz,e⟩
    ·exact .inl (by simp[h])
    ·exact .inr ⟨z,hz,e⟩
  split at hc
  ·rcases h3 hc with h|⟨z,hz,e⟩
   ·exact .inl (by simp[h])
   ·exact .inr ⟨z,by simp[hz],e⟩
  ·rcases mem_cons.1 hc with rfl|hc
   ·exact .inl (by simp)
   ·rcases h3 hc with h|⟨z,hz,e⟩
    ·exact .inl (by simp[h])
    ·exact .inr ⟨z,by simp[hz],e⟩
theorem Le {L R:List bn} {k k':Nat} {N N1:List T.NV} {F F1:T.aC} {n n1:Int} (hL:zk L k N F n) (hR:zk R k' N1 F1 n1) (hk:k<=61) (MA:k'<=61) (hl:L.length+R.length<=12) (h1:∀x∈L,aR (jM x)=none) (h2:∀y∈R,aR y=none):cM 20 L (dA L R)=none:=by
 obtain⟨a1,a2,a3⟩:=ki hL hk;obtain⟨b1,b2,b3⟩:=ki hR MA;have hc:=MU _ L R rfl
 have hf:dQ (dA L R)=none:=xt fun c hc=>by
  rcases VE _ L R rfl c hc with h|⟨x,hx,rfl⟩
  ·exact h2 c h
  ·exact h1 x hx
 unfold cM;rw[if_neg (by omega),hf];simp only;rw[BI a1 b1 b2,if_neg (by omega)]
theorem Bg (tb:Nat):aR (jM (T.gw 2))=none/\aR (jM (T.dN (T.bS tb)))=none:=⟨by kernel_rfl,by kernel_rfl⟩
theorem AQ (t2:Nat):aR (T.gw 3)=none/\aR (T.dN ⟨2,1,1,1,⟨#[]⟩,some t2⟩)=none:=⟨by kernel_rfl,by kernel_rfl⟩
theorem Ja (az:ByteArray):aR (T.gU 1 ⟨az,⟨#[97]⟩,2⟩)=none:=by
 unfold T.gU;rw[show T.dP ⟨#[97]⟩=Go.Proofs.YtphcnmlbieokoaaGreatDoor.T.dP ⟨#[97]⟩from rfl];unfold T.dP;rw[T.L7]
 kernel_rfl
noncomputable abbrev ZR:T.aG:=⟨T.dP ⟨#[97]⟩,⟨#[97]⟩,2⟩
abbrev Zb (t2:Nat):T.NV:=⟨2,1,1,1,⟨#[]⟩,some t2⟩
abbrev N0 (tb t2:Nat):List T.NV:=T.dH [T.bS tb] (Zb t2)
noncomputable abbrev F0 (tb t2:Nat):T.aC:=T.gl ((t2,[])::[(tb,[])]) tb ZR
theorem N6 (tb t2:Nat) (h:t2≠tb):T.rowsOf (F0 tb t2) 3 (N0 tb t2)=[T.gw 3,T.dN (T.bS tb),T.gU 1 ZR,T.dN (Zb t2)]:=by
 have e1:N0 tb t2=[T.bS tb,Zb t2]:=by show(if (T.bq [T.bS tb] 2).isSome then _ else _)=_;rw[show(T.bq [T.bS tb] 2)=none by simp[T.bq,T.bS]];rfl
 have l1:T.aX (F0 tb t2) tb=[ZR]:=by show T.aX (T.gK _ tb _) tb=_;rw[T.pt _ _ _ (by simp)];rw[T.oH h];simp[T.aX,T.da]
 have l2:T.aX (F0 tb t2) t2=[]:=by show T.aX (T.gK _ tb _) t2=_;rw[T.fh _ _ _ _ h,T.lW]
 have k1:T.bo (F0 tb t2) (T.bS tb)=[ZR]:=by show(if (1:Int)=1 then T.aX (F0 tb t2) tb else [])=_;rw[if_pos rfl,l1]
 have k2:T.bo (F0 tb t2) (Zb t2)=[]:=by show(if (1:Int)=1 then T.aX (F0 tb t2) t2 else [])=_;rw[if_pos rfl,l2]
 rw[e1]
 show T.gw 3::([T.bS tb,Zb t2].flatMap (T.cY (F0 tb t2)))=_;rw[flatMap_cons,flatMap_cons,flatMap_nil];unfold T.cY;rw[k1,k2];rfl
theorem N7 {L R:List bn} {tb t2:Nat} (h:t2≠tb) {N N1:List T.NV} {F F1:T.aC} (hs:T.eX [T.bS tb] [(tb,[])] N F) (rV:T.eX (N0 tb t2) (F0 tb t2) N1 F1) (hL:zk L 0 N F 2) (hR:zk R 1 N1 F1 3):cM 20 L (dA L R)=none:=by
 have pL:L.Perm [T.gw 2,T.dN (T.bS tb)]:=hL.perm.trans (by have:=hs.rows 2;rwa [AI]at this);have pR:R.Perm [T.gw 3,T.dN (T.bS tb),T.gU 1 ZR,T.dN (Zb t2)]:=hR.perm.trans (by have:=rV.rows 3;rwa [N6 tb t2 h]at this);have lL:=pL.length_eq;have lR:=pR.length_eq;simp only[length_cons,length_nil]at lL lR;refine Le hL hR (by decide) (by decide) (by omega) (fun x hx=>?_) (fun y hy=>?_)
 ·have:=pL.mem_iff.1 hx
  rcases mem_cons.1 this with rfl|this
  ·exact(Bg tb).1
  ·rw[mem_singleton.1 this];exact(Bg tb).2
 ·have:=pR.mem_iff.1 hy
  rcases mem_cons.1 this with rfl|this
  ·exact(AQ t2).1
  rcases mem_cons.1 this with rfl|this
  ·exact(wT tb).2
  rcases mem_cons.1 this with rfl|this
  ·exact Ja _
  ·rw[mem_singleton.1 this];exact(AQ t2).2
section
variable {w0 w w':World} {db mt:Nat} {d:DK} {k f1:Nat} {N:List T.NV} {F:T.aC} {ar:Int} {l:List T.aI}
theorem D8 {k k2:Nat} {M:List T.NV} {G:T.aC} (h:T.Good k N F ar) (h2:T.Good k2 M G ar) (hs:T.eX N F M G):T.VO N F M G ar:=⟨hs,h.fits,h2.fits,h.whole.iq,h2.whole.iq⟩
theorem jZ.back (h:jZ w0 w db mt d k f1 N F ar l):∃tp:List T.aI,T.H0 w0 w (l++tp)/\∀w' l',T.H0 w0 w' (l'++tp)->jZ w0 w' db mt d k f1 N F ar l':=by
 obtain⟨sb,fb,mb,rs,av,L,hF,hM,hS⟩:=h;obtain⟨tp,h1,h2⟩:=hS.back
 exact⟨.cell mt 62 [.pointer (some ⟨sb,0,none⟩),.pointer (some ⟨fb,0,none⟩)]::.cell fb 126 [.map (some mb),.int .i64 ar]::.obj mb (T.bU N)::(rs++tp),
  eD h1 (fun x=>by simp only[T.ax,T.ay];omega) (fun r hr=>by grind),
  fun w' l' H=>⟨sb,fb,mb,rs,av,L,hF,hM,h2 w' _ (eD H (fun x=>by simp only[T.ax,T.ay];omega) (fun r hr=>by grind))⟩⟩
theorem jZ.oR (h:jZ w0 w db mt d k f1 N F ar l):T.Good k N F ar:=by
 obtain⟨_,_,_,_,_,_,_,hM,_⟩:=h;exact hM.oR
theorem jZ.mono (h:jZ w0 w db mt d k f1 N F ar l) {m:Nat} (hm:k<=m):jZ w0 w db mt d m f1 N F ar l:=by
 obtain⟨sb,fb,mb,rs,av,L,hF,hM,hS⟩:=h;exact⟨sb,fb,mb,rs,av,L,hF,⟨hM.perm,hM.up,hM.oR.mono hm⟩,hS⟩
def Tc:T.gC:=⟨⟨#[109,107,100,105,114]⟩,⟨#[47,97]⟩,⟨#[]⟩,0,.slice none 0 0⟩
theorem Vv (tb t2:Nat) (h:t2≠tb):T.oA [T.bS tb] [(tb,[])] 2 Tc none (N0 tb t2) (F0 tb t2) 3:=by
 unfold T.oA;rw[if_pos (show(Tc.aA.toList==[109,107,100,105,114])=true by kernel_rfl)];unfold T.wD;rw[show Tc.s=⟨#[47,97]⟩from rfl,T.OS tb]
 show(if 16<=[T.bS tb].length∨(999:Int)<2 then _ else _);rw[if_neg (by simp)];refine⟨rfl,rfl,?_⟩;rw[if_pos rfl];exact⟨t2,by simp[h],rfl,rfl⟩
def WY (w0 w':World) (db mt tb:Nat) (l:List T.aI) (e:Ending):Prop:=
 e=.returned .nilIface/\∃N2 F2 d' kc t2,T.eX (N0 tb t2) (F0 tb t2) N2 F2/\jZ w0 w' db mt d' 1 kc N2 F2 3 l/\kc<=200
theorem Q3 {tb:Nat} {e:Ending} (hs:T.eX [T.bS tb] [(tb,[])] N F) (hl:d.left = -1) (hf:f1<=100) (h:B3 w0 w' db mt d 0 f1 N F 2 Tc l e):WY w0 w' db mt tb l e:=by
 obtain⟨o,N',F',N1,F1,n1,s1,g1,g2,g3⟩:=h;obtain⟨ho,hn,IJ⟩:=T.D9 (D8 (T.Bf tb) g1 (hs.trans s1)) (Vv tb (tb+1) (by omega)) g2;subst hn
 rcases g3 with⟨t,v,he,hI,hj⟩|⟨_,he,N2,F2,d',kc,s2,hI,x1,x2⟩|⟨_,_,hn,_⟩
 ·rcases hj with hj|⟨L,R,j,mL,mR,hc⟩
  ·exact absurd ho hj
  ·rw[N7 (by omega) hs IJ mL mR]at hc
   cases hc
 ·exact⟨he,N2,F2,d',kc,tb+1,IJ.trans s2,hI,by omega⟩
 ·omega
theorem nW (hR:bF w0) (h:T.H0 w0 w l):Calls prog 7 #[] w fun e w'=>e=.returned (.bool true)/\T.H0 w0 w' l:=by
 have hm:=oE hR h;have HM:=aq hm;have HR:=aq hR;clear hm h hR;go_enter func7,ntmps7;go_wp2_with fail;refine(an HM).mono ?_;rintro e w1 ⟨db,mt,N,F,d,f1,tb,rfl,hs,h1,hl,pG⟩
 have hd:Calls prog 13 #[.pointer (some ⟨mt,0,none⟩),.agg #[.string ⟨#[109,107,100,105,114]⟩,.string ⟨#[47,97]⟩,.string ⟨#[]⟩,.int .i64 0,.int .u64 0,.slice none 0 0]] w1 fun e w'=>WY w0 w' db mt tb l e:=
  (pw (an HR) h1 (by omega) (by omega) Tc 0 none 0 0 (by decide) (by decide)).mono fun e w' hE=>Q3 hs hl pG hE
 have HD:=aq hd;clear hd h1 hs hl pG HM;go_wp2_with fail;refine(an HD).mono ?_;rintro e w2 ⟨rfl,N2,F2,d2,f2,t2,yl,h2,ME⟩;have ho:=rM (an HR) h2 (cj h2.oR (by decide)) (by omega);have HO:=aq ho;have xL:=aq yl;clear ho h2 ME yl HD;go_wp2_with fail;refine(an HO).mono ?_;rintro e w3 ⟨mt3,N3,F3,sb,fb,mb,rs,rfl,hFr,Wn,h3⟩;have hf:=fC h3;have HF:=aq hf;have D3:=aq Wn;clear hf h3 hFr Wn HO;go_wp2_with fail;refine(an HF).mono ?_;rintro e w4 ⟨gb,N4,F4,rfl,gm,rs4,hF4,Dk,hG4,h4⟩;obtain⟨tp,k1,_⟩:=h4.back
 have f4:T.aJ w0 w4 gb gm N4 F4 3 l:=⟨rs4,hF4,eD k1 (fun x=>by simp only[T.ax,T.ay];omega) (fun r hr=>by grind)⟩;obtain⟨u,hu,KT⟩:=T.O2 tb t2 ⟨#[]⟩;have PS:=(((an xL).trans (an D3)).trans Dk).find ⟨#[47,65]⟩;have WD:=T.Fk w0 w4 gb gm N4 F4 3 l (an HR) f4 hG4.fits ⟨#[47,65]⟩ (by decide)
 have aa2:Calls prog 20 #[.pointer (some ⟨gb,0,none⟩),.string ⟨#[47,65]⟩] w4 fun e w'=>(∃kd up lk tx,e=.returned (.tuple #[.agg #[.int .i64 2,.int .i64 kd,.int .i64 up,.int .i64 lk,.string tx],.nilIface]))/\T.H0 w0 w' l:=by
  refine WD.mono ?_;rintro e w' ⟨he,hI⟩;refine⟨?_,hI.rest⟩;rw[KT]at PS;generalize T.bX N4 F4 ⟨#[47,65]⟩=r at PS he
  cases PS with
  | @ok v v' t=>have h2:v'.id=2:=t.id.trans hu;subst he;unfold T.Ft;simp only[T.GU,T.QE,Go.Proofs.YtphcnmlbieokoaaGreatDoor.bH,h2];exact⟨_,_,_,_,rfl⟩
 have Xd:=aq aa2;clear WD aa2 PS KT hu f4 k1 h4 hF4 Dk hG4 HF xL D3;go_wp2_with fail;refine(an Xd).mono ?_;rintro e w5 ⟨⟨kd,up,lk,tx,rfl⟩,h5⟩;have H5:=aq h5;clear h5 Xd;go_wp2_with fail;go_ret;exact⟨rfl,T.aw.alloc (an H5) _⟩
end
def Pv (n ia:Nat) (f:Nat->bn) (e:Ending):Prop:=∃r:Bool,e=.returned (.bool r)/\(r=true↔LK n ia f)
theorem It (v:Value) (n:Nat) (f:Nat->bn) (w:World) (h:iP w v n f) (ia:Nat) (hm:ia<=1000):
 Calls prog 22 #[v,.int .i64 ia] w fun e w'=>Pv n ia f e/\w'=w:=by
 rcases h with⟨⟨p,c,rfl⟩,rfl⟩|⟨b,off,c,rfl,hm63,hb,hc⟩
 ·go_enter func22,ntmps22;have hz:¬((ia:Int)<0):=by omega
  go_wp2_with fail
  go_loopg [5] 1 (fun g vi wr=>vi=.int .i64 0/\wr=w)
  case atStart=>exact⟨rfl,rfl⟩
  case round=>obtain⟨rfl,rfl⟩:=hrel;go_wp2_with fail;go_ret;exact⟨⟨true,rfl,⟨fun _=>⟨Nat.zero_le _,fun j hj=>by omega⟩,fun _=>rfl⟩⟩,rfl⟩
 ·have HC:=aq hc;clear hc
  by_cases qZ:ia<n
  ·have hz:(ia:Int)<(n:Int):=by omega
   go_enter func22,ntmps22;go_wp2_with fail;go_ret;exact⟨⟨false,rfl,⟨(fun h=>by cases h),fun h=>absurd h.1 (by omega)⟩⟩,rfl⟩
  ·have hz:¬((ia:Int)<(n:Int)):=by omega
   go_enter func22,ntmps22;go_wp2_with fail
   go_loopg [5] (n+1) (fun g vi wr=>∃i:Nat,n-i<g/\i<=n/\vi=.int .i64 i/\wr=w/\Hid (∀j,j<i->(f j).az.size<=60/\(f j).val.size<=60))
   case atStart=>exact⟨0,by omega,by omega,rfl,rfl,fun j hj=>by omega⟩
   case round=>
    obtain⟨i,hg,hi,rfl,rfl,HL⟩:=hrel
    by_cases him:i<n
    ·have mI:(i:Int)<(n:Int):=by omega
     obtain⟨q1,q2,_⟩:=an HC i him;obtain⟨az,iI⟩:=aa ((f i).az);obtain⟨val,KI⟩:=aa ((f i).val);rw[iI]at q1;rw[KI]at q2;have Hk:=aq iI;have Hv:=aq KI;clear iI KI
     by_cases h1:60<az.size
     ·have fE:(60:Int)<(az.size:Int):=by omega
      go_wp2_with fail
      go_ret;exact⟨⟨false,rfl,⟨(fun h=>by cases h),fun h=>by have:=(h.2 i him).1;rw[an Hk]at this;omega⟩⟩,rfl⟩
     ·have fE:¬((60:Int)<(az.size:Int)):=by omega
      by_cases h2:60<val.size
      ·have fD:(60:Int)<(val.size:Int):=by omega
       go_wp2_with fail
       go_ret;exact⟨⟨false,rfl,⟨(fun h=>by cases h),fun h=>by have:=(h.2 i him).2;rw[an Hv]at this;omega⟩⟩,rfl⟩
      ·have fD:¬((60:Int)<(val.size:Int)):=by omega
       go_wp2_with fail
       go_roundg (n-i)
       case measure=>omega
       case rel=>
        refine⟨i+1,by omega,by omega,by simp,rfl,fun j hj=>?_⟩
        rcases Nat.lt_or_ge j i with h|h
        ·exact an HL j h
        ·obtain rfl:j=i:=by omega
         rw[an Hk,an Hv];omega
    ·have mI:¬((i:Int)<(n:Int)):=by omega
     go_wp2_with fail
     go_ret;exact⟨⟨true,rfl,⟨fun _=>⟨by omega,fun j hj=>an HL j (by omega)⟩,fun _=>rfl⟩⟩,rfl⟩
def Tk (n ia:Nat) (f:Nat->gC) (e:Ending):Prop:=∃r:Bool,e=.returned (.bool r)/\(r=true↔FW n ia f)
theorem oI (v:Value) (n:Nat) (f:Nat->gC) (w:World) (h:jz w v n f) (ia:Nat) (hm:ia<=1000):
 Calls prog 9 #[v,.int .i64 ia] w fun e w'=>Tk n ia f e/\w'=w:=by
 rcases h with⟨⟨p,c,rfl⟩,rfl⟩|⟨b,off,c,rfl,Oy,hb,hc⟩
 ·go_enter func9,ntmps9;have hz:¬((ia:Int)<0):=by omega
  go_wp2_with fail
  go_loopg [5] 1 (fun g vi wr=>vi=.int .i64 0/\wr=w)
  case atStart=>exact⟨rfl,rfl⟩
  case round=>obtain⟨rfl,rfl⟩:=hrel;go_wp2_with fail;go_ret;exact⟨⟨true,rfl,⟨fun _=>⟨Nat.zero_le _,fun j hj=>by omega⟩,fun _=>rfl⟩⟩,rfl⟩
 ·have HC:=aq hc;clear hc
  by_cases qZ:ia<n
  ·have hz:(ia:Int)<(n:Int):=by omega
   go_enter func9,ntmps9;go_wp2_with fail;go_ret;exact⟨⟨false,rfl,⟨(fun h=>by cases h),fun h=>absurd h.1 (by omega)⟩⟩,rfl⟩
  ·have hz:¬((ia:Int)<(n:Int)):=by omega
   go_enter func9,ntmps9;go_wp2_with fail
   go_loopg [5] (n+1) (fun g vi wr=>∃i:Nat,n-i<g/\i<=n/\vi=.int .i64 i/\wr=w/\Hid (∀j,j<i->(f j).s.size<=200/\(f j).t.size<=150/\LK (f j).cn 16 (f j).cf))
   case atStart=>exact⟨0,by omega,by omega,rfl,rfl,fun j hj=>by omega⟩
   case round=>
    obtain⟨i,hg,hi,rfl,rfl,HL⟩:=hrel
    by_cases him:i<n
    ·have mI:(i:Int)<(n:Int):=by omega
     obtain⟨_,q1,q2,_,_,q5,mw,_⟩:=an HC i him;have e1:=It (f i).ch (f i).cn (f i).cf wr mw 16 (by omega);have E1:=aq e1;have gX:=mw.slice;obtain⟨S,hS⟩:=aa ((f i).s);obtain⟨T,hT⟩:=aa ((f i).t);obtain⟨V,hV⟩:=aa ((f i).ch);rw[hS]at q1;rw[hT]at q2;rw[hV]at q5 E1 gX;obtain⟨p,c',rfl⟩:=gX;have HS:=aq hS;have HT:=aq hT;clear e1 mw hS hT hV
     by_cases h1:200<S.size
     ·have fE:(200:Int)<(S.size:Int):=by omega
      go_wp2_with fail
      go_ret;exact⟨⟨false,rfl,⟨(fun h=>by cases h),fun h=>by have:=(h.2 i him).1;rw[an HS]at this;omega⟩⟩,rfl⟩
     ·have fE:¬((200:Int)<(S.size:Int)):=by omega
      by_cases h2:150<T.size
      ·have fD:(150:Int)<(T.size:Int):=by omega
       go_wp2_with fail
       go_ret;exact⟨⟨false,rfl,⟨(fun h=>by cases h),fun h=>by have:=(h.2 i him).2.1;rw[an HT]at this;omega⟩⟩,rfl⟩
      ·have fD:¬((150:Int)<(T.size:Int)):=by omega
       go_wp2_with fail
       refine(an E1).mono ?_;rintro e w3 ⟨⟨r,rfl,hr⟩,rfl⟩;have Hr:=aq hr;clear hr E1
       cases r with
       |true=>
        go_wp2_with fail
        go_roundg (n-i)
        case measure=>omega
        case rel=>
         refine⟨i+1,by omega,by omega,by simp,rfl,fun j hj=>?_⟩
         rcases Nat.lt_or_ge j i with h|h
         ·exact an HL j h
         ·obtain rfl:j=i:=by omega
          rw[an HS,an HT];exact⟨by omega,by omega,(an Hr).1 (by trivial)⟩
       |false=>
        go_wp2_with fail
        go_ret;exact⟨⟨false,rfl,⟨(fun h=>by cases h),fun h=>absurd ((an Hr).2 (h.2 i him).2.2) (by decide)⟩⟩,rfl⟩
    ·have mI:¬((i:Int)<(n:Int)):=by omega
     go_wp2_with fail
     go_ret;exact⟨⟨true,rfl,⟨fun _=>⟨by omega,fun j hj=>an HL j (by omega)⟩,fun _=>rfl⟩⟩,rfl⟩
section
variable {w0 w w':World} {db mt:Nat} {d:DK} {k f1:Nat} {N:List T.NV} {F:T.aC} {ar:Int} {l:List T.aI}
def gC.toT (a:gC):T.gC:=⟨a.aA,a.s,a.t,a.n,a.ch⟩
theorem B3.adx {a:T.gC} {e:Ending} (h:B3 w0 w' db mt d k f1 N F ar a l e) (hl:d.left = -1):∃ov d' kc N' F' n',e=.returned ov/\jZ w0 w' db mt d' (k+1) kc N' F' n' l/\d'.left = -1/\kc<=f1+100:=by
 obtain⟨o,N',F',N1,F1,n1,s1,g1,g2,g3⟩:=h
 rcases g3 with⟨t,v,he,hI,hj⟩|⟨_,he,N2,F2,d',kc,s2,hI,x1,x2⟩|⟨_,_,hn,_⟩
 ·exact⟨_,d,f1,N,F,ar,he,hI.mono (by omega),hl,by omega⟩
 ·exact⟨_,d',kc,N2,F2,n1,he,hI,by rw[x2 (by omega)];exact hl,x1⟩
 ·omega
def Pt (w0:World) (l:List T.aI) (na:Nat) (fa:Nat->gC) (e:Ending) (w':World):Prop:=
 (e=.returned (.tuple #[.pointer none,.pointer none,.bool false])/\¬FW na 60 fa/\T.H0 w0 w' l)∨
 ∃db mt d f1 N F ar,e=.returned (.tuple #[.pointer (some ⟨db,0,none⟩),.pointer (some ⟨mt,0,none⟩),.bool true])/\FW na 60 fa/\jZ w0 w' db mt d 60 f1 N F ar l/\d.left = -1/\f1<=6100
theorem qk (hR:bF w0) (h:T.H0 w0 w l) (va:Value) (na:Nat) (fa:Nat->gC) (hA:jz w0 va na fa):
 Calls prog 8 #[va] w fun e w'=>Pt w0 l na fa e w':=by
 obtain⟨pv,cv,hv⟩:=hA.slice;subst hv;have hL:=oI _ na fa w (hA.below (T.H0.below h)) 60 (by decide);have hm:=oE hR h;have HA:=aq hA;have HL:=aq hL;have HM:=aq hm;have HH:=aq h;have HR:=aq hR;clear hA hL hm h hR;go_enter func8,ntmps8;go_wp2_with fail;refine(an HL).mono ?_;rintro e w2 ⟨⟨r,rfl,hr⟩,rfl⟩;clear HL
 cases r with
 |false=>
  have Hr:Hid (¬FW na 60 fa):=fun h=>by have:=hr.2 h;cases this
  clear hr;go_wp2_with fail;go_ret3;exact .inl ⟨rfl,an Hr,an HH⟩
 |true=>
  have HLt:=aq (hr.1 rfl);clear hr HH;go_wp2_with fail;refine(an HM).mono ?_;rintro e w3 ⟨db,mt,N,F,d,f1,tb,rfl,hs,h1,hl,pG⟩;have H3:Hid (∃d f1 N F ar,jZ w0 w3 db mt d 0 f1 N F ar l/\d.left = -1/\f1<=100+100*0):=⟨d,f1,N,F,2,h1,hl,by omega⟩;clear h1 hs hl pG HM;go_wp2_with fail
  go_loopg [6,8,9,10] (na+1) (fun g v6 v8 v9 v10 wr=>∃(i mt:Nat),na-i<g/\i<=na/\v8=.int .i64 i/\v6=.pointer (some ⟨mt,0,none⟩)/\Hid (∃d f1 N F ar,jZ w0 wr db mt d i f1 N F ar l/\d.left = -1/\f1<=100+100*i))
  case atStart=>exact⟨0,mt,by omega,by omega,rfl,rfl,H3⟩
  case round=>
   obtain⟨i,mt,hg,hi,rfl,rfl,HI⟩:=hrel;clear H3
   by_cases gY:i<na
   ·have mI:(i:Int)<(na:Int):=by omega
    obtain⟨d,f1,N,F,ar,hI,hl,pG⟩:=an HI;have eO:=an HLt;have JY:na<=60:=eO.1;obtain⟨rV,yl,_⟩:=eO.2 i gY
    rcases an HA with⟨_,h0⟩|⟨b,off,c,hv,Oy,qD,ct⟩
    ·omega
    injection hv with hp _ kD;subst hp kD;obtain⟨p0,p1,p2,p3,p4,p5,pch,_,_⟩:=ct i gY;have below:=T.H0.below hI.hold;have pW:∀p:Addr,p.block=b->wr.cell? p=w0.cell? p:=fun p hp=>World.cell?_of_block (w:=w0) (below.block p.block (by rw[hp];exact qD))
    have q0:=(pW ⟨b,off+i*6,none⟩ rfl).trans p0;have q1:=(pW ⟨b,off+i*6+1,none⟩ rfl).trans p1;have q2:=(pW ⟨b,off+i*6+2,none⟩ rfl).trans p2;have q3:=(pW ⟨b,off+i*6+3,none⟩ rfl).trans p3;have q4:=(pW ⟨b,off+i*6+4,none⟩ rfl).trans p4;have q5:=(pW ⟨b,off+i*6+5,none⟩ rfl).trans p5;obtain⟨cp,cc,mw⟩:=pch.slice;obtain⟨cn,T6⟩:=aa ((fa i).cn);rw[T6]at mw;rw[mw]at q5;have Wl:=Kf hI (by omega) (by omega);have JX:=rM (an HR) hI (cj hI.oR (by omega)) (by omega)
    have hd:Calls prog 13 #[.pointer (some ⟨mt,0,none⟩),.agg #[.string (fa i).aA,.string (fa i).s,.string (fa i).t,.int .i64 (fa i).n,.int .u64 ((fa i).k:Int),.slice cp cn cc]] wr fun e w'=>∃ov d' kc N' F' n',e=.returned ov/\jZ w0 w' db mt d' (i+1) kc N' F' n' l/\d'.left = -1/\kc<=f1+100:=
     (pw (an HR) hI (by omega) (by omega) (fa i).toT _ cp cn cc (by show(fa i).s.size<=_;omega) (by show(fa i).t.size<=_;omega)).mono fun e w' hE=>B3.adx hE hl
    have HSv:=aq Wl;have Uh:=aq JX;have zn:=aq hd;have Hl:=aq (show d.left = -1/\f1<=100+100*i from⟨hl,pG⟩);obtain⟨K,hK⟩:=aa ((fa i).aA);obtain⟨S,hS⟩:∃K,(fa i).s=K:=⟨_,rfl⟩;obtain⟨T',hT'⟩:∃K,(fa i).t=K:=⟨_,rfl⟩;obtain⟨n',Wq⟩:∃K,(fa i).n=K:=⟨_,rfl⟩;obtain⟨k',MA⟩:∃K,((fa i).k:Int)=K:=⟨_,rfl⟩;rw[hK]at q0 zn;rw[hS]at q1 zn;rw[hT']at q2 zn;rw[Wq]at q3 zn;rw[MA]at q4 zn;clear hI ct p0 p1 p2 p3 p4 p5 pch below pW Wl JX hd HI mw T6 hl pG rV yl eO hK hS hT' Wq MA
    by_cases e1:(K.toList==[115,97,118,101])=true
    ·clear zn Uh q1 q2 q3 q4 q5;go_wp2_with fail;refine(an HSv).mono ?_;rintro e w4 ⟨rfl,d',kc,h4,x1,x2⟩;have Y2:Hid (∃d f1 N F ar,jZ w0 w4 db mt d (i+1) f1 N F ar l/\d.left = -1/\f1<=100+100*(i+1)):=⟨_,_,_,_,_,h4.mono (by omega),x2.trans (an Hl).1,by have:=(an Hl).2;omega⟩;clear h4 x1 x2 HSv Hl;go_wp2_with fail
     go_roundg (na-i)
     case measure=>omega
     case rel=>exact⟨i+1,mt,by omega,by omega,by simp,rfl,Y2⟩
    have e1':(K.toList==[115,97,118,101])=false:=by simpa using e1
    clear e1
    by_cases e2:(K.toList==[111,112,101,110])=true
    ·clear zn HSv q1 q2 q3 q4 q5;go_wp2_with fail;refine(an Uh).mono ?_;rintro e w4 ⟨mt4,N4,F4,sb,fb,mb,rs,rfl,_,_,h4⟩;have Y2:Hid (∃d f1 N F ar,jZ w0 w4 db mt4 d (i+1) f1 N F ar l/\d.left = -1/\f1<=100+100*(i+1)):=⟨_,_,_,_,_,(h4.re (fun x=>by simp only[T.ax,T.ay];omega) (fun r hr=>by grind)).mono (by omega),(an Hl).1,by have:=(an Hl).2;omega⟩;clear h4 Uh Hl;go_wp2_with fail
     go_roundg (na-i)
     case measure=>omega
     case rel=>exact⟨i+1,mt4,by omega,by omega,by simp,rfl,Y2⟩
    have e2':(K.toList==[111,112,101,110])=false:=by simpa using e2
    clear e2 HSv Uh;go_wp2_with fail;refine(an zn).mono ?_;rintro e w4 ⟨ov,d',kc,N',F',n1,rfl,h4,x1,x2⟩;have Y2:Hid (∃d f1 N F ar,jZ w0 w4 db mt d (i+1) f1 N F ar l/\d.left = -1/\f1<=100+100*(i+1)):=⟨_,_,_,_,_,h4,x1,by have:=(an Hl).2;omega⟩;clear h4 x1 x2 zn Hl;go_wp2_with fail
    go_roundg (na-i)
    case measure=>omega
    case rel=>exact⟨i+1,mt,by omega,by omega,by simp,rfl,Y2⟩
   ·have mI:¬(i:Int)<(na:Int):=by omega
    go_wp2_with fail
    go_ret3;obtain⟨d,f1,N,F,ar,hI,hl,pG⟩:=an HI;have JY:=(an HLt).1;exact .inr ⟨db,mt,d,f1,N,F,ar,rfl,an HLt,hI.mono (by omega),hl,by omega⟩
end
section
variable {w0 w w':World} {fb mb gb gm:Nat} {N N':List T.NV} {F F':T.aC} {ar next':Int} {rs rs' l:List T.aI}
def WV (w0 w':World) (fb mb:Nat) (N:List T.NV) (F:T.aC) (ar:Int) (gb gm:Nat) (N':List T.NV) (F':T.aC) (next':Int) (l:List T.aI) (e:Ending):Prop:=
 ∃(b:Bool) (oY ZJ:List T.aI),e=.returned (.bool b)/\((T.rowsOf F' next' N').Perm (T.rowsOf F ar N)->b=true)/\T.fG F oY/\T.fG F' ZJ/\T.H0 w0 w' (T.gR fb mb N ar oY (T.gR gb gm N' next' ZJ l))
theorem rz (hR:bF w0) (h:T.H0 w0 w (T.gR fb mb N ar rs (T.gR gb gm N' next' rs' l))) (hF:T.fG F rs) (OK:T.fG F' rs') (hO:T.jx N F ar) (Zp:T.jx N' F' next'):
 Calls prog 11 #[.pointer (some ⟨fb,0,none⟩),.pointer (some ⟨gb,0,none⟩)] w fun e w'=>WV w0 w' fb mb N F ar gb gm N' F' next' l e:=by
 have h1:T.aJ w0 w fb mb N F ar (T.gR gb gm N' next' rs' l):=⟨rs,hF,h⟩;have lu:=T.lC hR h1 hO;have HR1:=aq lu
 have J6:Hid (∀wx v1 R1,T.aJ w0 wx fb mb N F ar (T.cL v1 R1::T.gR gb gm N' next' rs' l)->R1.Perm (T.rowsOf F ar N)->R1.Pairwise (fun a b=>¬T.dR b.az a.az)->Calls prog 19 #[.pointer (some ⟨gb,0,none⟩)] wx fun e w'=>∃v2 R2 TR TQ,e=.returned v2/\((T.rowsOf F' next' N').Perm (T.rowsOf F ar N)->R1=R2)/\T.fG F TR/\T.fG F' TQ/\T.H0 w0 w' (T.cL v1 R1::T.cL v2 R2::T.gR fb mb N ar TR (T.gR gb gm N' next' TQ l))):=fun wx v1 R1 h1 p1 s1=>by
  obtain⟨TR,hrA,h2⟩:=T.aJ.swap OK (h1.perm T.Sl);refine(T.lC hR h2 Zp).mono ?_;rintro e w' ⟨v2,R2,rfl,p2,s2,TQ,hrB,h3⟩;refine⟨v2,R2,TR,TQ,rfl,fun hp=>?_,hrA,hrB,eD h3 (fun x=>by simp only[T.ax,T.ay];omega) (fun r hr=>by grind)⟩;have p3:R2.Perm R1:=p2.trans (hp.trans p1.symm);exact(T.xT p3 s2 s1 ((p2.map T.CH.az).nodup_iff.2 Zp.keys)).symm
 clear lu Zp hR h OK hO h1 hF;go_enter func11,ntmps11;go_wp2_with fail;refine(an HR1).mono ?_;rintro e w1 ⟨v1,R1,rfl,p1,s1,h1⟩;have kC:=an J6 w1 v1 R1 h1 p1 s1;have W9:=aq kC;obtain⟨p,c,rfl⟩:=T.jV (h1.rowAt (v:=v1) (e:=86) (k:=3) ae);clear h1 p1 s1 kC HR1 J6;go_wp2_with fail;refine(an W9).mono ?_;rintro e w2 ⟨v2,R2,TR,TQ,rfl,hp,hA,hB,h2⟩;have c1:=(FL ae (oe.2 h2)).1;have c2:=(FL af (oe.2 h2)).1;have hs:=GK _ _ R1 R2 w2 c1 c2;have HS:=aq hs;obtain⟨p2,c2',wE⟩:=iP.slice c2
 subst wE;have H2:=aq h2;have HX:=aq (show((T.rowsOf F' next' N').Perm (T.rowsOf F ar N)->R1=R2)/\T.fG F TR/\T.fG F' TQ from⟨hp,hA,hB⟩);clear h2 c1 c2 hs hp hA hB W9;go_wp2_with fail;refine(an HS).mono ?_;rintro e w3 ⟨⟨b,rfl,hb⟩,k,rfl⟩
 have HE:Hid (WV w0 (w2.drewN k) fb mb N F ar gb gm N' F' next' l (.returned (.bool b))):=
  ⟨b,TR,TQ,rfl,fun hp=>hb ((an HX).1 hp),(an HX).2.1,(an HX).2.2,eD (T.aw.drewN (an H2) k) (fun x=>by simp only[T.ax,T.ay];omega) (fun r hr=>by grind)⟩
 clear HS H2 HX hb;go_wp2_with fail;go_ret;exact an HE
end
end Go.Proofs.YtphcnmlbieokoaaGreatDoor.S
