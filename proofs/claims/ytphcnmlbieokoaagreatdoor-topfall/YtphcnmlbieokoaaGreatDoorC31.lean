import Derived.Test.YtphcnmlbieokoaaGreatDoorC30
set_option maxRecDepth 100000
set_option maxHeartbeats 16000000
set_option linter.unusedVariables false
set_option linter.unusedSimpArgs false
namespace Go.Proofs.YtphcnmlbieokoaaGreatDoor.S
open Go.RowKit Go.Lib List Go.Proofs.Tryz
theorem Up (va:Value) (na:Nat) (fa:Nat->gC) (q:T.gC) (u:Int) (p:Option Addr) (n c:Nat) (abw:Int) (keep:Nat) (hkb:keep<18446744073709551616) (W:World) (hR:bF W) (hA:jz W va na fa) (hq:q.ch=.slice p n c) (mw:T.iP W q.ch):
 Calls prog 5 #[va,.agg #[.string q.aA,.string q.s,.string q.t,.int .i64 q.n,.int .u64 u,.slice p n c],.int .i64 abw,.int .u64 (keep:Int)] W fun e w'=>e=.returned (.bool true)/\Below W.heap.size W w':=by
 obtain⟨pv,cv,hv⟩:=hA.slice;subst hv;obtain⟨B,hB⟩:=aa W.heap.size;have h0:=T.aw.aY (T.H0.start W) (Nat.le_refl _) 40 [.string q.aA,.string q.s,.string q.t,.int .i64 q.n,.int .u64 u,.slice p n c];obtain⟨w0,hw0⟩:=aa (W.alloc (.cells [Value.string q.aA,.string q.s,.string q.t,.int .i64 q.n,.int .u64 u,.slice p n c].toArray 40));rw[hw0]at h0;have XK:W.alloc (.cells #[Value.string q.aA,.string q.s,.string q.t,.int .i64 q.n,.int .u64 u,.slice p n c] 40)=w0:=hw0;have hw:=nW hR h0;have hp:=fun w1 (h1:T.H0 W w1 [uP W.heap.size q u p n c])=>qk hR h1 _ na fa hA
 have oM:=fun wx C (hb:Below W.heap.size W wx) (hx:wx.heap[C]? = some (.cells #[.string q.aA,.string q.s,.string q.t,.int .i64 q.n,.int .u64 u,.slice p n c] 40 (0,0)))=>T.rQ (.slice (some ⟨C,0,none⟩) 1 1) 1 (fun _=>q) wx (T.JA hq mw hb hx) 1 (by decide)
 rw[hB]at hw hp;have HW:=aq hw;have HP:=aq hp;have LS:=aq oM;have HR:=aq hR;have Gj:=aq hB;clear hw hp oM hR hA hw0 h0 hq mw;go_enter func5,ntmps5;go_wp2_with fail;refine(an HW).mono ?_;rintro e w1 ⟨rfl,h1⟩;have Dm:=an HP w1 h1;have Tz:=aq Dm;clear Dm h1 HW HP XK;go_wp2_with fail;refine(an Tz).mono ?_;rintro e w2 (⟨rfl,hn,h2⟩|⟨db,mt,d,f1,N,F,ar,rfl,eO,h2,hl,pG⟩)
 ·have H2:=aq h2;clear h2 hn Tz LS;go_wp2_with fail;go_ret;exact⟨rfl,T.H0.below (an H2)⟩
 clear Tz eO;obtain⟨b0,b1,b2,b3,b4,b5⟩:=lP h2.hold ae;obtain⟨C,hC⟩:=aa w2.heap.size;have h3:=h2.aY 40 [.string q.aA,.string q.s,.string q.t,.int .i64 q.n,.int .u64 u,.slice p n c];have Gf:=an LS (w2.alloc (.cells #[.string q.aA,.string q.s,.string q.t,.int .i64 q.n,.int .u64 u,.slice p n c] 40)) C (T.H0.below h3.hold) (by rw[<-hC];exact heap_alloc_new w2 _);obtain⟨w3,hw3⟩:=aa (w2.alloc (.cells #[.string q.aA,.string q.s,.string q.t,.int .i64 q.n,.int .u64 u,.slice p n c] 40));have h3':jZ W w3 db mt d 60 f1 N F ar [uP C q u p n c,uP B q u p n c]:=by rw[<-hw3,<-hC];exact h3
 rw[hw3]at Gf;have H3:=aq h3';have HL:=aq Gf;have Hl:=aq (show d.left = -1/\f1<=6100 from⟨hl,pG⟩);clear h2 h3 h3' Gf hl pG LS;go_wp2_with fail;refine(an HL).mono ?_;rintro e w4 ⟨⟨r,rfl,hlr⟩,rfl⟩;clear HL
 cases r with
 |false=>clear hlr;go_wp2_with fail;go_ret;exact⟨rfl,T.H0.below (an H3).hold⟩
 |true=>
 obtain⟨_,gP⟩:=hlr rfl;have JN:=aq (gP 0 (by omega));have hf:=fC (an H3);have HF:=aq hf;clear hlr gP hf H3 b0 b1 b2 b3 b4 b5 hw3 hC;go_wp2_with fail;refine(an HF).mono ?_;rintro e w5 ⟨ga,Na,Fa,rfl,gam,rsa,hFa,Dj,hGa,h5⟩;have hf:=fC h5;have J7:=aq hf;have Ha:=aq (show T.fG Fa rsa/\T.eX N F Na Fa/\T.Good 60 Na Fa ar from⟨hFa,Dj,hGa⟩);clear hf h5 hFa Dj hGa HF;go_wp2_with fail;refine(an J7).mono ?_;rintro e w6 ⟨gb,Nb,Fb,rfl,gbm,rsb,hFb,Cz,hGb,h6⟩;have K5:jZ W w6 db mt d 60 f1 N F ar (T.gR gb gbm Nb ar rsb ((.cell ga 126 [.map (some gam),.int .i64 ar]::.obj gam (T.bU Na)::rsa)++[uP C q u p n c,uP B q u p n c])):=h6.re (fun x=>by simp only[T.ax,T.ay];omega) (fun r hr=>by grind)
 have ju:=zC (an HR) K5 hFb hGb (by omega) q u p n c (by have:=(an JN).1;omega) (by have:=(an JN).2;omega);obtain⟨b0,b1,b2,b3,b4,b5⟩:=lP h6.hold (B:=B) (q:=q) (u:=u) (p:=p) (n:=n) (c:=c) (by simp);have TD:=aq ju;have Hb:=aq (show T.eX N F Nb Fb/\T.Good 60 Nb Fb ar from⟨Cz,hGb⟩);clear ju h6 K5 hFb Cz hGb J7;go_wp2_with fail;refine(an TD).mono ?_;rintro e w7 ⟨o2,Nb1,Fb1,nb1,rsb1,rfl,hDb,hGb1,hFb1,h7⟩;obtain⟨ov,eK⟩:=aa (Go.Proofs.YtphcnmlbieokoaaGreatDoor.bH o2);rw[eK];have ha:=h7.arm (min (max abw (-1)) 100) (by omega)
 have HAr:=aq ha;have P7:=aq eK;have Ci:=aq (show T.oA Nb Fb ar q o2 Nb1 Fb1 nb1/\T.Good 61 Nb1 Fb1 nb1/\T.fG Fb1 rsb1 from⟨hDb,hGb1,hFb1⟩);clear ha h7 eK hDb hGb1 hFb1 TD b0 b1 b2 b3 b4 b5;go_wp2_with fail;refine(an HAr).mono ?_;rintro e w8 ⟨rfl,h8⟩;obtain⟨b0,b1,b2,b3,b4,b5⟩:=lP h8.hold (B:=B) (q:=q) (u:=u) (p:=p) (n:=n) (c:=c) (by simp)
 have WH:Calls prog 13 #[.pointer (some ⟨mt,0,none⟩),.agg #[.string q.aA,.string q.s,.string q.t,.int .i64 q.n,.int .u64 u,.slice p n c]] w8 fun e w'=>Down W w' db 60 f1 N F ar q _ e:=
  (pw (an HR) h8 (by omega) (by have:=(an Hl).2;omega) q u p n c (by have:=(an JN).1;omega) (by have:=(an JN).2;omega)).mono fun e w' hE=>B3.down hE
 have zn:=aq WH;clear WH h8 HAr;go_wp2_with fail;refine(an zn).mono ?_;rintro e w9 ⟨o,N',F',N1,F1,n1,d',ok,v,s1,g1,g2,rfl,hv,hD,IV⟩;obtain⟨e1,e2,e3⟩:=T.D9 (D8 g1 (an Hb).2 (s1.symm.trans (an Hb).1)) g2 (an Ci).1;subst e1 e2;have B7:=hD.Mc IV keep hkb;have PB:=aq B7;have Hv:=aq hv;have D3:=aq e3
 have Wi:∃t u,v=.nilIface∨v=.iface t u:=by
  rcases hv with⟨_,h⟩|⟨_,t,u,h⟩
  ·exact⟨0,.nilIface,.inl h⟩
  ·exact⟨t,u,.inr h⟩
 clear B7 hv hD IV s1 g1 g2 e3 zn b0 b1 b2 b3 b4 b5;go_wp2_with fail;refine(an PB).mono ?_;rintro e TN ⟨rfl,d3,aH,f3,L0,D,av,L,hD3,Gf,Ge,gz,hP,hf3⟩;have JX:=Dy (an HR) (by omega) (by have:=(an Hl).2;omega) hD3 Gf Ge gz hP hf3;have Uh:=aq JX;clear JX hD3 Gf Ge gz hP hf3 PB;go_wp2_with fail;refine(an Uh).mono ?_;rintro e ZD ⟨Ga,d4,f4,N3,F3,n3,rfl,tN,hf4,X3,hout⟩;have hf:=fC tN;have HF:=aq hf;have TA:=aq hout;clear hf tN hf4 X3 hout Uh;go_wp2_with fail;refine(an HF).mono ?_;rintro e PK ⟨gc,Nc,Fc,rfl,gcm,rsc,hFc,hsc,hGc,pX⟩
 obtain⟨tp,k1,_⟩:=pX.back;have h3:mr W PK ⟨ga,gam,Na,Fa,ar⟩ ⟨gb,gbm,Nb1,Fb1,nb1⟩ ⟨gc,gcm,Nc,Fc,n3⟩ tp:=⟨rsa,rsb1,rsc,(an Ha).1,(an Ci).2.2,hFc,eD k1 (fun x=>by simp only[T.ax,T.ay];omega) (fun r hr=>by grind)⟩
 have hO:(ok=false/\(FD.rows ⟨ga,gam,Na,Fa,ar⟩).Perm (FD.rows ⟨gc,gcm,Nc,Fc,n3⟩))∨(o2=none/\(FD.rows ⟨gb,gbm,Nb1,Fb1,nb1⟩).Perm (FD.rows ⟨gc,gcm,Nc,Fc,n3⟩)):=by
  rcases an TA with⟨h1,h2,h4⟩|⟨h1,h2,h4⟩
  ·subst h2;exact .inl ⟨h1,((an Ha).2.1.rows n3).trans ((h4.trans hsc).rows n3).symm⟩
  ·subst h2;exact .inr ⟨h1,((an D3).rows n3).trans ((h4.trans hsc).rows n3).symm⟩
 have oQ:∀wx,mr W wx ⟨ga,gam,Na,Fa,ar⟩ ⟨gb,gbm,Nb1,Fb1,nb1⟩ ⟨gc,gcm,Nc,Fc,n3⟩ tp->Calls prog 11 #[.pointer (some ⟨gc,0,none⟩),.pointer (some ⟨ga,0,none⟩)] wx fun e w'=>xG W w' ⟨ga,gam,Na,Fa,ar⟩ ⟨gb,gbm,Nb1,Fb1,nb1⟩ ⟨gc,gcm,Nc,Fc,n3⟩ tp ((FD.rows ⟨ga,gam,Na,Fa,ar⟩).Perm (FD.rows ⟨gc,gcm,Nc,Fc,n3⟩)) e:=
  fun wx h=>mr.ca (an HR) (cj (an Ha).2.2 (by omega)) (cj hGc (by omega)) h
 have pW:∀wx,mr W wx ⟨ga,gam,Na,Fa,ar⟩ ⟨gb,gbm,Nb1,Fb1,nb1⟩ ⟨gc,gcm,Nc,Fc,n3⟩ tp->Calls prog 11 #[.pointer (some ⟨gc,0,none⟩),.pointer (some ⟨gb,0,none⟩)] wx fun e w'=>xG W w' ⟨ga,gam,Na,Fa,ar⟩ ⟨gb,gbm,Nb1,Fb1,nb1⟩ ⟨gc,gcm,Nc,Fc,n3⟩ tp ((FD.rows ⟨gb,gbm,Nb1,Fb1,nb1⟩).Perm (FD.rows ⟨gc,gcm,Nc,Fc,n3⟩)) e:=
  fun wx h=>mr.cb (an HR) (cj (an Ci).2.1 (by omega)) (cj hGc (by omega)) h
 generalize FD.rows ⟨ga,gam,Na,Fa,ar⟩=rA at hO oQ;generalize FD.rows ⟨gb,gbm,Nb1,Fb1,nb1⟩=rB at hO pW;generalize FD.rows ⟨gc,gcm,Nc,Fc,n3⟩=rC at hO oQ pW;generalize (⟨ga,gam,Na,Fa,ar⟩:FD)=A at h3 oQ pW;generalize (⟨gb,gbm,Nb1,Fb1,nb1⟩:FD)=B' at h3 oQ pW;generalize (⟨gc,gcm,Nc,Fc,n3⟩:FD)=C' at h3 oQ pW;have Nd:=aq oQ;have LV:=aq pW;have HO:=aq hO;have H3:=aq h3;have hv:=an Hv;clear h3 oQ pW hO k1 pX hFc hsc hGc HF TA D3 Ha Hb Ci Hv JN Hl
 cases o2 with
 |some k9=>
  have hpA:ok=false/\rA.Perm rC:=by
   rcases an HO with h|⟨h,_⟩
   ·exact h
   ·cases h
  obtain⟨og,Cb⟩:=hpA
  have wE:∃t u,v=.iface t u:=by
   rcases hv with⟨h,_⟩|⟨_,h⟩
   ·rw[og]at h;cases h
   ·exact h
  obtain⟨t,u9,rfl⟩:=wE;have eK:=an P7;have KL:Value.iface 88 (.int .i64 k9)=ov:=eK;subst KL;have hs:=an Nd PK (an H3);have HS:=aq hs;have wg:=aq Cb;clear eK hs Cb og hv Wi HO Nd LV H3 P7;go_wp2_with fail;refine(an HS).mono ?_;rintro e L3 ⟨b,rfl,hb,tM⟩;have zz:b=true:=hb (an wg);subst zz;have kB:Hid (Below W.heap.size W L3):=by obtain⟨_,_,_,_,_,_,h⟩:=tM;exact T.H0.below h
  clear hb tM HS wg;go_wp2_with fail;go_ret;exact⟨rfl,an kB⟩
 |none=>
  have eK:=an P7;have KL:Value.nilIface=ov:=eK;subst KL
  rcases hv with⟨og,rfl⟩|⟨og,t,u9,rfl⟩
  ·have RA:rB.Perm rC:=by
    rcases an HO with⟨h,_⟩|⟨_,h⟩
    ·rw[og]at h;cases h
    ·exact h
   have hs:=an LV PK (an H3);have HS:=aq hs;have wg:=aq RA;clear eK hs RA og Wi HO Nd LV H3 P7;go_wp2_with fail;refine(an HS).mono ?_;rintro e L3 ⟨b,rfl,hb,tM⟩;have zz:b=true:=hb (an wg);subst zz;have kB:Hid (Below W.heap.size W L3):=by obtain⟨_,_,_,_,_,_,h⟩:=tM;exact T.H0.below h
   clear hb tM HS wg;go_wp2_with fail;go_ret;exact⟨rfl,an kB⟩
  ·have hs:=an Nd PK (an H3);have HS:=aq hs;clear eK hs og Wi Nd H3 P7;go_wp2_with fail;refine(an HS).mono ?_;rintro e L3 ⟨b,rfl,hb,tM⟩
   cases b with
   |true=>
    have kB:Hid (Below W.heap.size W L3):=by obtain⟨_,_,_,_,_,_,h⟩:=tM;exact T.H0.below h
    clear hb tM HS HO LV;go_wp2_with fail;go_ret;exact⟨rfl,an kB⟩
   |false=>
    have RA:rB.Perm rC:=by
     rcases an HO with⟨_,h⟩|⟨_,h⟩
     ·have:=hb h;cases this
     ·exact h
    have hs:=an LV L3 tM;have xL:=aq hs;have wg:=aq RA;clear hb tM hs RA HS HO LV;go_wp2_with fail;refine(an xL).mono ?_;rintro e V6 ⟨b,rfl,hb,zb⟩;have zz:b=true:=hb (an wg);subst zz;have kB:Hid (Below W.heap.size W V6):=by obtain⟨_,_,_,_,_,_,h⟩:=zb;exact T.H0.below h
    clear hb zb xL wg;go_wp2_with fail;go_ret;exact⟨rfl,an kB⟩
end Go.Proofs.YtphcnmlbieokoaaGreatDoor.S
