import Derived.Test.YtphcnmlbieokoaaGreatDoorC30
set_option maxRecDepth 100000
set_option maxHeartbeats 16000000
set_option linter.unusedVariables false
set_option linter.unusedSimpArgs false
namespace Go.Proofs.YtphcnmlbieokoaaGreatDoor.S
open Go.RowKit Go.Lib List Go.Proofs.Tryz
theorem abF (x:Int):∃m:Int,bits .and .i64 x 31=m/\-9223372036854775808<=m/\m<=9223372036854775807:=by
 have h:(BitVec.ofInt 64 x &&& BitVec.ofInt 64 31).toNat<=31:=by rw[BitVec.toNat_and];exact Nat.le_trans Nat.and_le_right (by decide)
 have e:bits .and .i64 x 31=(((BitVec.ofInt 64 x &&& BitVec.ofInt 64 31).toNat:Nat):Int):=by show IntKind.i64.wrap (((BitVec.ofInt 64 x &&& BitVec.ofInt 64 31).toNat:Nat):Int)=_;rw[IntKind.wrap_i64];omega
 exact⟨_,e,by omega,by omega⟩
def FY (W:World) (db mt i:Nat) (w:World):Prop:=∃d f1 N F ar,jZ W w db mt d i f1 N F ar []/\f1<=100+100*i
theorem TP (va:Value) (na:Nat) (fa:Nat->gC) (W:World) (hR:bF W) (hA:jz W va na fa):
 Calls prog 6 #[va] W fun e w'=>e=.returned (.bool true)/\Below W.heap.size W w':=by
 obtain⟨pv,cv,hv⟩:=hA.slice;subst hv;have hw:=nW hR (T.H0.start W);have hp:=fun w1 (h1:T.H0 W w1 [])=>oE hR h1
 have hL:=fun w1 (h1:T.H0 W w1 [])=>oI _ na fa w1 (hA.below (T.H0.below h1)) 60 (by decide)
 have HA:=aq hA;have HW:=aq hw;have HP:=aq hp;have HL:=aq hL;have HR:=aq hR;clear hw hp hL hR hA;go_enter func6,ntmps6;go_wp2_with fail;refine(an HW).mono ?_;rintro e w1 ⟨rfl,h1⟩;have rY:=an HL w1 h1;have HL1:=aq rY;have H1:=aq h1;clear rY h1 HW HL;go_wp2_with fail;refine(an HL1).mono ?_;rintro e w2 ⟨⟨r,rfl,hr⟩,rfl⟩;clear HL1
 cases r with
 |false=>clear hr;go_wp2_with fail;go_ret;exact⟨rfl,T.H0.below (an H1)⟩
 |true=>
 have HLt:=aq (hr.1 rfl);have JW:=an HP _ (an H1);have Ug:=aq JW;clear hr JW HP H1;go_wp2_with fail;refine(an Ug).mono ?_;rintro e w3 ⟨db,mt,N,F,d,f1,tb,rfl,hs,h1,hl,pG⟩;have H3:Hid (FY W db mt 0 w3):=⟨d,f1,N,F,2,h1,by omega⟩;clear h1 hs hl pG Ug;go_wp2_with fail
 go_loopg [5,6,7,8,9,10,11,12,13,14,15] (na+1) (fun g v5 v6 v7 v8 v9 v10 v11 v12 v13 v14 v15 wr=>∃(i mt:Nat),na-i<g/\i<=na/\v6=.int .i64 i/\v5=.pointer (some ⟨mt,0,none⟩)/\Hid (FY W db mt i wr))
 case atStart=>exact⟨0,mt,by omega,by omega,rfl,rfl,H3⟩
 case round=>
  obtain⟨i,mt,hg,hi,rfl,rfl,HI⟩:=hrel;clear H3
  by_cases gY:i<na
  ·have mI:(i:Int)<(na:Int):=by omega
   obtain⟨d,f1,N,F,ar,hI,pG⟩:=an HI;have eO:=an HLt;have JY:na<=60:=eO.1;obtain⟨rV,yl,_⟩:=eO.2 i gY;obtain⟨b,off,c,cp,cn,cc,hv,nS,ct⟩:=(an HA).cells gY;injection hv with hp _ kD;subst hp kD;obtain⟨K,hK⟩:=aa ((fa i).aA);obtain⟨S,hS⟩:∃K,(fa i).s=K:=⟨_,rfl⟩;obtain⟨T',hT'⟩:∃K,(fa i).t=K:=⟨_,rfl⟩;obtain⟨n',Wq⟩:∃K,(fa i).n=K:=⟨_,rfl⟩;obtain⟨k',MA⟩:∃K,(fa i).k=K:=⟨_,rfl⟩;obtain⟨q,hq⟩:∃q:T.gC,q=⟨K,S,T',n',.slice cp cn cc⟩:=⟨_,rfl⟩;rw[hK,hS,hT',Wq,MA]at ct
   rw[MA]at nS;rw[hS]at rV;rw[hT']at yl
   have WG:∀⦃wx:World⦄ ⦃d:DK⦄ ⦃k f1 kf:Nat⦄ ⦃N Nf:List T.NV⦄ ⦃F Ff:T.aC⦄ ⦃ar nf:Int⦄ ⦃l QA:List T.aI⦄ ⦃gb gm:Nat⦄,jZ W wx db mt d k f1 N F ar (T.gR gb gm Nf nf QA l)->T.fG Ff QA->T.Good kf Nf Ff nf->kf<800->
    Calls prog 14 #[.pointer (some ⟨gb,0,none⟩),.agg #[.string K,.string S,.string T',.int .i64 n',.int .u64 (k':Int),.slice cp cn cc]] wx fun e w'=>TK W w' db mt d k f1 N F ar gb gm (kf+1) (T.oA Nf Ff nf q) l e:=fun wx d k f1 kf N Nf F Ff ar nf l QA gb gm h1 h2 h3 h4=>by
    subst hq;exact zC (an HR) h1 h2 h3 h4 ⟨K,S,T',n',.slice cp cn cc⟩ _ cp cn cc (by show S.size<=_;omega) (by show T'.size<=_;omega)
   have aaN:∀⦃wx:World⦄ ⦃d:DK⦄ ⦃k f1:Nat⦄ ⦃N:List T.NV⦄ ⦃F:T.aC⦄ ⦃ar:Int⦄ ⦃l:List T.aI⦄,jZ W wx db mt d k f1 N F ar l->k<=60->f1<=700000->
    Calls prog 13 #[.pointer (some ⟨mt,0,none⟩),.agg #[.string K,.string S,.string T',.int .i64 n',.int .u64 (k':Int),.slice cp cn cc]] wx fun e w'=>Down W w' db k f1 N F ar q l e:=fun wx d k f1 N F ar l h1 h2 h3=>by
    subst hq;exact(pw (an HR) h1 h2 h3 ⟨K,S,T',n',.slice cp cn cc⟩ _ cp cn cc (by show S.size<=_;omega) (by show T'.size<=_;omega)).mono fun e w' hE=>B3.down hE
   have HC:=aq ct;have Xe:=aq WG;have acb:=aq aaN;have Hk:=aq nS;have Hf1:=aq pG;have hf:=fC hI;have HF:=aq hf;clear hI ct WG aaN nS hf pG HI hK hS hT' Wq MA hq rV yl eO;go_wp2_with fail;refine(an HF).mono ?_;rintro e w5 ⟨ga,Na,Fa,rfl,gam,rsa,hFa,Dj,hGa,h5⟩;have hf:=fC h5;have J7:=aq hf;have Ha:=aq (show T.fG Fa rsa/\T.eX N F Na Fa/\T.Good i Na Fa ar from⟨hFa,Dj,hGa⟩);clear hf h5 hFa Dj hGa HF;go_wp2_with fail;refine(an J7).mono ?_;rintro e w6 ⟨gb,Nb,Fb,rfl,gbm,rsb,hFb,Cz,hGb,h6⟩
   have K5:jZ W w6 db mt d i f1 N F ar (T.gR gb gbm Nb ar rsb (.cell ga 126 [.map (some gam),.int .i64 ar]::.obj gam (T.bU Na)::rsa)):=h6.re (fun x=>by simp only[T.ax,T.ay];omega) (fun r hr=>by grind);have ju:=an Xe K5 hFb hGb (by omega);obtain⟨q0,q1,q2,q3,q4,q5⟩:=an HC w6 (T.H0.below h6.hold);have TD:=aq ju;have Hb:=aq (show T.eX N F Nb Fb/\T.Good i Nb Fb ar from⟨Cz,hGb⟩);clear ju h6 K5 hFb Cz hGb J7 Xe;go_wp2_with fail;refine(an TD).mono ?_;rintro e w7 ⟨o2,Nb1,Fb1,nb1,rsb1,rfl,hDb,hGb1,hFb1,h7⟩
   obtain⟨ov,eK⟩:=aa (Go.Proofs.YtphcnmlbieokoaaGreatDoor.bH o2);rw[eK];clear q0 q1 q2 q3 q4 q5;obtain⟨q0,q1,q2,q3,q4,q5⟩:=an HC w7 (T.H0.below h7.hold);obtain⟨m31,hm31,Dq,UW⟩:=abF n';have ha:=h7.arm m31 ⟨Dq,UW⟩;have HAr:=aq ha;have P7:=aq eK;have Ci:=aq (show T.oA Nb Fb ar q o2 Nb1 Fb1 nb1/\T.Good (i+1) Nb1 Fb1 nb1/\T.fG Fb1 rsb1 from⟨hDb,hGb1,hFb1⟩);clear ha h7 eK hDb hGb1 hFb1 TD Dq UW q0 q1 q2 q4 q5;go_wp2_with fail;refine(an HAr).mono ?_;rintro e w8 ⟨rfl,h8⟩;clear q3;obtain⟨q0,q1,q2,q3,q4,q5⟩:=an HC w8 (T.H0.below h8.hold)
   have WH:=an acb h8 (by omega) (by have:=an Hf1;omega);have zn:=aq WH;clear WH h8 HAr acb hm31;go_wp2_with fail;refine(an zn).mono ?_;rintro e w9 ⟨o,N',F',N1,F1,n1,d',ok,v,s1,g1,g2,rfl,hv,hD,IV⟩;obtain⟨e1,e2,e3⟩:=T.D9 (D8 g1 (an Hb).2 (s1.symm.trans (an Hb).1)) g2 (an Ci).1;subst e1 e2;clear q0 q1 q2 q3 q4 q5;obtain⟨_,_,_,_,q4,_⟩:=an HC w9 (T.H0.below (oe.1 (aE.hold hD)));have B7:=hD.Mc IV k' (an Hk);have PB:=aq B7;have Hv:=aq hv;have D3:=aq e3
   have Wi:∃t u,v=.nilIface∨v=.iface t u:=by
    rcases hv with⟨_,h⟩|⟨_,t,u,h⟩
    ·exact⟨0,.nilIface,.inl h⟩
    ·exact⟨t,u,.inr h⟩
   clear B7 hv hD IV s1 g1 g2 e3 zn;go_wp2_with fail;refine(an PB).mono ?_;rintro e TN ⟨rfl,d3,aH,f3,L0,D,av,L,hD3,Gf,Ge,gz,hP,hf3⟩;have JX:=Dy (an HR) (by omega) (by have:=an Hf1;omega) hD3 Gf Ge gz hP hf3;have Uh:=aq JX;clear JX hD3 Gf Ge gz hP hf3 PB q4;go_wp2_with fail;refine(an Uh).mono ?_;rintro e ZD ⟨Ga,d4,f4,N3,F3,n3,rfl,tN,hf4,X3,hout⟩;have hf:=fC tN;have HF:=aq hf;have TA:=aq hout;have Hf4:=aq hf4;clear hf tN hf4 X3 hout Uh;go_wp2_with fail;refine(an HF).mono ?_;rintro e PK ⟨gc,Nc,Fc,rfl,gcm,rsc,hFc,hsc,hGc,pX⟩
   obtain⟨tp,k1,kback⟩:=pX.back;obtain⟨A,eA⟩:∃A:FD,A=⟨ga,gam,Na,Fa,ar⟩:=⟨_,rfl⟩;obtain⟨B',eB⟩:∃A:FD,A=⟨gb,gbm,Nb1,Fb1,nb1⟩:=⟨_,rfl⟩;obtain⟨C',eC⟩:∃A:FD,A=⟨gc,gcm,Nc,Fc,n3⟩:=⟨_,rfl⟩;have h3:mr W PK A B' C' tp:=by subst eA eB eC;exact⟨rsa,rsb1,rsc,(an Ha).1,(an Ci).2.2,hFc,eD k1 (fun x=>by simp only[T.ax,T.ay];omega) (fun r hr=>by grind)⟩
   have hO:(ok=false/\A.rows.Perm C'.rows)∨(o2=none/\B'.rows.Perm C'.rows):=by
    subst eA eB eC
    rcases an TA with⟨h1,h2,h4⟩|⟨h1,h2,h4⟩
    ·subst h2;exact .inl ⟨h1,((an Ha).2.1.rows n3).trans ((h4.trans hsc).rows n3).symm⟩
    ·subst h2;exact .inr ⟨h1,((an D3).rows n3).trans ((h4.trans hsc).rows n3).symm⟩
   have oQ:∀wx,mr W wx A B' C' tp->Calls prog 11 #[.pointer (some ⟨gc,0,none⟩),.pointer (some ⟨ga,0,none⟩)] wx fun e w'=>xG W w' A B' C' tp (A.rows.Perm C'.rows) e:=by subst eA eB eC;exact fun wx h=>mr.ca (an HR) (cj (an Ha).2.2 (by omega)) (cj hGc (by omega)) h
   have pW:∀wx,mr W wx A B' C' tp->Calls prog 11 #[.pointer (some ⟨gc,0,none⟩),.pointer (some ⟨gb,0,none⟩)] wx fun e w'=>xG W w' A B' C' tp (B'.rows.Perm C'.rows) e:=by subst eA eB eC;exact fun wx h=>mr.cb (an HR) (cj (an Ci).2.1 (by omega)) (cj hGc (by omega)) h
   have HGc:=aq hGc;have HKb:=aq kback;have HeC:=aq eC;clear kback k1 pX hFc;generalize A.rows=rA at hO oQ;generalize B'.rows=rB at hO pW;generalize C'.rows=rC at hO oQ pW;clear eA eB eC;have Nd:=aq oQ;have LV:=aq pW;have HO:=aq hO;have H3:=aq h3;have hv:=an Hv;clear h3 oQ pW hO hsc hGc HF TA D3 Ha Hb Ci Hv HC Hk;go_upto_region 23 with fail
   go_cut [109]from 29 to 117 (fun a109 wc=>a109=.bool false/\Hid (mr W wc A B' C' tp))
   case first=>
    cases o2 with
    |some k9=>
     have hpA:ok=false/\rA.Perm rC:=by
      rcases an HO with h|⟨h,_⟩
      ·exact h
      ·cases h
     obtain⟨og,Cb⟩:=hpA;have KL:Value.iface 88 (.int .i64 k9)=ov:=an P7;subst KL;have hs:=an Nd PK (an H3);have HS:=aq hs;have wg:=aq Cb;clear hs Cb og hv Wi HO LV H3 P7;go_wp2_with fail;refine(an HS).mono ?_;rintro e L3 ⟨b,rfl,hb,tM⟩;obtain rfl:b=true:=hb (an wg);have hs:=an Nd L3 tM;have xL:=aq hs;clear hb tM HS hs Nd;go_wp2_with fail;refine(an xL).mono ?_;rintro e V6 ⟨b,rfl,hb,zb⟩;obtain rfl:b=true:=hb (an wg);have Gn:=aq zb;clear hb zb xL;go_wp2_with fail
     go_meet
     exact⟨rfl,Gn⟩
    |none=>
     have KL:Value.nilIface=ov:=an P7;subst KL
     rcases hv with⟨og,rfl⟩|⟨og,t,u9,rfl⟩
     ·have RA:rB.Perm rC:=by
       rcases an HO with⟨h,_⟩|⟨_,h⟩
       ·rw[og]at h;cases h
       ·exact h
      have hs:=an LV PK (an H3);have HS:=aq hs;have wg:=aq RA;clear hs RA og Wi HO H3 P7;go_wp2_with fail;refine(an HS).mono ?_;rintro e L3 ⟨b,rfl,hb,tM⟩;obtain rfl:b=true:=hb (an wg);have hs:=an Nd L3 tM;have xL:=aq hs;clear hb tM HS hs Nd;go_wp2_with fail;refine(an xL).mono ?_;rintro e V6 ⟨b,rfl,hb,zb⟩
      cases b with
      |true=>
       have Gn:=aq zb;clear hb zb xL;go_wp2_with fail
       go_meet
       exact⟨rfl,Gn⟩
      |false=>
       have hs:=an LV V6 zb;have D3:=aq hs;clear hb zb xL hs LV;go_wp2_with fail;refine(an D3).mono ?_;rintro e w15 ⟨b,rfl,hb,h15⟩;obtain rfl:b=true:=hb (an wg);have Y5:=aq h15;clear hb h15 D3;go_wp2_with fail
       go_meet
       exact⟨rfl,Y5⟩
     ·have hs:=an Nd PK (an H3);have HS:=aq hs;clear hs og Wi Nd H3 P7;go_wp2_with fail;refine(an HS).mono ?_;rintro e L3 ⟨b,rfl,hb,tM⟩
      cases b with
      |true=>
       have Qg:=aq tM;clear hb tM HS HO LV;go_wp2_with fail
       go_meet
       exact⟨rfl,Qg⟩
      |false=>
       have RA:rB.Perm rC:=by
        rcases an HO with⟨_,h⟩|⟨_,h⟩
        ·have:=hb h;cases this
        ·exact h
       have hs:=an LV L3 tM;have xL:=aq hs;have wg:=aq RA;clear hb tM hs RA HS HO LV;go_wp2_with fail;refine(an xL).mono ?_;rintro e V6 ⟨b,rfl,hb,zb⟩;obtain rfl:b=true:=hb (an wg);have Gn:=aq zb;clear hb zb xL wg;go_wp2_with fail
       go_meet
       exact⟨rfl,Gn⟩
   case rest=>
    obtain⟨rfl,Qg⟩:=hcut;obtain⟨ra,rb,rc,x1,x2,x3,h1⟩:=an Qg;have eC:=an HeC;subst eC;have hr:=T.lC (an HR) (⟨rc,x3,eD h1 (fun x=>by simp only[T.ax,T.ay];omega) (fun r hr=>by grind)⟩:T.aJ W wc gc gcm Nc Fc n3 tp) (cj (an HGc) (by omega));have ab6:=aq hr;clear hr Nd LV HO H3 hv Wi P7 Qg x1 x2 x3 h1 HeC;go_wp2_with fail;refine(an ab6).mono ?_;rintro e w15 ⟨v,R,rfl,hp,hsR,rc2,_,h15⟩;have hq:=T.l8 (an HR) (an HGc).whole (cj (an HGc) (by omega)) h15 (va:=v) (R:=R) (by simp) hp hsR
    have HQ:=aq hq;obtain⟨p9,c9,rfl⟩:=T.jV (T.aw.sat h15 (T.cL v R) (by simp));clear hq hp hsR h15 ab6;go_wp2_with fail;refine(an HQ).mono ?_;rintro e w16 ⟨gx,gxm,Nx,Fx,acc,rfl,_,_,_,rx,_,Ua⟩;have H16:Hid (FY W db Ga (i+1) w16):=⟨d4,f4,N3,F3,n3,an HKb w16 [] (eD Ua (fun x=>by simp only[nil_append,T.ax,T.ay];omega) (fun r hr=>by grind)),by have:=an Hf4;have:=an Hf1;omega⟩;clear Ua HQ;go_wp2_with fail
    go_roundg (na-i)
    case measure=>omega
    case rel=>exact⟨i+1,Ga,by omega,by omega,by simp,rfl,H16⟩
  ·have mI:¬(i:Int)<(na:Int):=by omega
   have Hb:Hid (Below W.heap.size W wr):=by obtain⟨d,f1,N,F,ar,hI,_⟩:=an HI;exact T.H0.below hI.hold
   go_wp2_with fail
   go_ret;exact⟨rfl,an Hb⟩
end Go.Proofs.YtphcnmlbieokoaaGreatDoor.S
